/- Part 33 of the proof: JrnF4, JrnF5, JrnF6, JrnD3, JrnD4, JrnD5, JrnD6, JrnD7, JrnD8. -/
import Derived.Test.YtfmhmokbbkliaaaGreatB27
import Derived.BigRegion
import Derived.Deep.DeepCutAuto
import Derived.Deep.RegionHeld3
import Derived.Defers
import Derived.Recover

/- The contract of journal.takeRequest. -/
namespace Go.Proofs.YtfmhmokbbkliaaaGreat.Jrn
open Go.RowKit Go.Proofs.YtfmhmokbbkliaaaGreat Go.Proofs.YtfmhmokbbkliaaaGreat.Wir Go.Proofs.YtfmhmokbbkliaaaGreat.Lgg
set_option linter.unusedVariables false

/-- A request in a box. -/
structure Ask3 (W : World) (b : Nat) (k : ByteArray) (ep : Int) (s : Value) : Prop where
  c0 : W.cell? ⟨b, 0, none⟩ = some (.string k)
  c1 : W.cell? ⟨b, 1, none⟩ = some (.int .i64 ep)
  c2 : W.cell? ⟨b, 2, none⟩ = some s
  fr : ∀ j, W.frozen? ⟨b, j, none⟩ = false
section
variable {W W' : World} {b : Nat} {k k' : ByteArray} {ep ep' : Int} {s s' : Value}
theorem Ask3.lt (h : Ask3 W b k ep s) : b < W.heap.size := World.block_lt_of_cell? _ _ h.c0
theorem Ask3.stay {O : Nat → Prop} (h : Ask3 W b k ep s) (hs : Stay O W W') (hO : ¬ O b) : Ask3 W' b k ep s := by
  have e := hs.block b h.lt hO
  exact ⟨(World.cell?_of_block (a := ⟨b, 0, none⟩) e).trans h.c0, (World.cell?_of_block (a := ⟨b, 1, none⟩) e).trans h.c1, (World.cell?_of_block (a := ⟨b, 2, none⟩) e).trans h.c2, fun j => (World.frozen?_of_block (a := ⟨b, j, none⟩) e).trans (h.fr j)⟩
theorem Ask3.below (h : Ask3 W b k ep s) (hb : Below W.heap.size W W') : Ask3 W' b k ep s := h.stay (O := fun _ => False) (Stay.of_below hb) id
theorem Ask3.new (W : World) (k : ByteArray) (ep : Int) (s : Value) (T : TypeId) : Ask3 (W.alloc (.cells #[.string k, .int .i64 ep, s] T)) W.heap.size k ep s :=
  ⟨World.cell?_alloc_new W _ _ 0, World.cell?_alloc_new W _ _ 1, World.cell?_alloc_new W _ _ 2, fun j => World.frozen?_alloc_new W _ _ j⟩
theorem Ask3.sets (h : Ask3 W b k ep s) (k' : ByteArray) (ep' : Int) (s' : Value) : Ask3 (((W.setCell ⟨b, 0, none⟩ (.string k')).setCell ⟨b, 1, none⟩ (.int .i64 ep')).setCell ⟨b, 2, none⟩ s') b k' ep' s' :=
  ⟨cell_set (by omega) (cell_set (by omega) (World.cell?_setCell_same _ _ _ h.c0)), cell_set (by omega) (World.cell?_setCell_same _ _ _ (cell_set (by omega) h.c1)), World.cell?_setCell_same _ _ _ (cell_set (by omega) (cell_set (by omega) h.c2)),
    fun j => by rw [World.frozen?_setCell, World.frozen?_setCell, World.frozen?_setCell]; exact h.fr j⟩
theorem Ask3.putS (h : Ask3 W b k ep s) (s' : Value) : Ask3 (W.setCell ⟨b, 2, none⟩ s') b k ep s' :=
  ⟨cell_set (by omega) h.c0, cell_set (by omega) h.c1, World.cell?_setCell_same _ _ _ h.c2, fun j => by rw [World.frozen?_setCell]; exact h.fr j⟩
theorem Ask3.other {q j : Nat} {v : Value} (h : Ask3 W b k ep s) (hq : b ≠ q) : Ask3 (W.setCell ⟨q, j, none⟩ v) b k ep s := h.stay (O := fun x => x = q) (stay_set W q j v) hq
theorem stay_sets (W : World) (b : Nat) (u0 u1 u2 : Value) : Stay (fun x => x = b) W (((W.setCell ⟨b, 0, none⟩ u0).setCell ⟨b, 1, none⟩ u1).setCell ⟨b, 2, none⟩ u2) := ((stay_set W b 0 u0).then_same (stay_set _ b 1 u1)).then_same (stay_set _ b 2 u2)
end
/-- What stands behind the first region: a request whose entries are none yet. -/
structure Got (W1 wx : World) (R : Nat) (k : ByteArray) (ep : Int) : Prop where
  ask : Ask3 wx R k ep (.slice none 0 0)
  ge : W1.heap.size ≤ R
  bel : Below W1.heap.size W1 wx
theorem got_a {W1 w2 : World} {R : Nat} {k k0 : ByteArray} {ep ep0 : Int} (h : Ask3 w2 R k0 ep0 (.slice none 0 0)) (hge : W1.heap.size ≤ R) (hb : Below W1.heap.size W1 w2) : Got W1 (((w2.setCell ⟨R, 0, none⟩ (.string k)).setCell ⟨R, 1, none⟩ (.int .i64 ep)).setCell ⟨R, 2, none⟩ (.slice none 0 0)) R k ep :=
  ⟨h.sets k ep _, hge, hb.trans ((stay_sets w2 R _ _ _).below hb.size (fun x hx => by subst hx; exact hge))⟩
theorem got_b {W1 w2 : World} {k : ByteArray} {ep : Int} {T : TypeId} (hb : Below W1.heap.size W1 w2) : Got W1 (w2.alloc (.cells #[.string k, .int .i64 ep, .slice none 0 0] T)) w2.heap.size k ep :=
  ⟨Ask3.new w2 k ep _ T, hb.size, bel_tr hb (bel_al _ _)⟩
theorem bel_dr1 (w : World) : Below w.heap.size w w.drew := (Below.refl _ w).drew

def kindT : Rq → ByteArray
  | .prom _ => pT
  | .acc _ _ => aT
  | .add _ _ => wT
def epQ : Rq → Int
  | .prom ep => ep
  | .acc ep _ => ep
  | .add ep _ => ep
def ents : Rq → List En
  | .prom _ => []
  | .acc _ es => es
  | .add _ x => [x]
/-- A request in new memory. -/
structure AskR (base : Nat) (k : ByteArray) (ep : Int) (es : List En) (e : Ending) (w' : World) : Prop where
  ex : ∃ a c g, e = .returned (.agg #[.string k, .int .i64 ep, .slice a es.length c]) ∧ Cel (fun q => base ≤ q) w' 2 (.slice a es.length c) es.length (rowC enC es) g

theorem strs_drop {w : World} {b off : Nat} {x y : ByteArray} {ss : List ByteArray} (h : Strs w (some ⟨b, off, none⟩) b off (x :: y :: ss)) : Strs w (some ⟨b, off + 2, none⟩) b (off + 2) ss := by
  refine ⟨fun _ => rfl, fun j hj => ?_, fun s hs => h.small s (by simp [hs]), by have := h.len; simp at this; omega⟩
  have h1 := h.cell (j + 2) (by simp; omega)
  rw [show off + 2 + j = off + (j + 2) by omega, h1]
  rfl
theorem list_ne {k : ByteArray} {l : List UInt8} (h : k ≠ ⟨l.toArray⟩) : (k.toList == l) = false := by
  rw [beq_eq_false_iff_ne]
  intro e
  exact h (Go.WideShapes.bytes_inj (by rw [Lib.toList_data] at e; simpa using e))
theorem fin3 {w wz : World} {RB : Nat} {k k0 : ByteArray} {ep ep0 : Int} {a : Option Addr} {c : Nat} {es : List En} {g : Option Nat} {s0 : Value} (hO : Ask3 wz RB k0 ep0 s0) (hC : Cel (fun q => RB < q) wz 2 (.slice a es.length c) es.length (rowC enC es) g) (hb : Below w.heap.size w wz) (hR : RB = w.heap.size) :
    Ask3 (((wz.setCell ⟨RB, 0, none⟩ (.string k)).setCell ⟨RB, 1, none⟩ (.int .i64 ep)).setCell ⟨RB, 2, none⟩ (.slice a es.length c)) RB k ep (.slice a es.length c) ∧ Cel (fun q => w.heap.size ≤ q) (((wz.setCell ⟨RB, 0, none⟩ (.string k)).setCell ⟨RB, 1, none⟩ (.int .i64 ep)).setCell ⟨RB, 2, none⟩ (.slice a es.length c)) 2 (.slice a es.length c) es.length (rowC enC es) g ∧ Below w.heap.size w (((wz.setCell ⟨RB, 0, none⟩ (.string k)).setCell ⟨RB, 1, none⟩ (.int .i64 ep)).setCell ⟨RB, 2, none⟩ (.slice a es.length c)) := by
  have hs := stay_sets wz RB (.string k) (.int .i64 ep) (.slice a es.length c)
  refine ⟨hO.sets k ep _, hC.stay hs.size (fun q hq => hs.block q (by rw [hq] at hC; exact hC.lt.1) (fun e => by rw [hq] at hC; have h9 : RB < q := hC.lt.2; omega)) (fun q hq => by have h9 : RB < q := hq; omega), hb.trans (hs.below hb.size (fun x hx => by omega))⟩

set_option maxRecDepth 100000 in
set_option maxHeartbeats 1000000 in
theorem ask_few {w : World} (a : Option Addr) (n c : Nat) (hn : n < 2) : Calls Tryz.prog 67 #[.slice a n c] w fun e w' => e = leftV ∧ Below w.heap.size w w' := by
  have HF : Hid (∀ W, Calls Tryz.prog 94 #[.bool false] W fun e w' => e = leftV ∧ w' = W) := need_no
  rcases (show n = 0 ∨ n = 1 by omega) with rfl | rfl
  all_goals
    clear hn
    go_enter Tryz.func67, Tryz.ntmps67
    go_wp2_with (go_at_call 94; refine (HF.out _).mono ?_; rintro e wy ⟨rfl, rfl⟩)
    exact ⟨rfl, rfl, bel_al _ _⟩

/-- What becomes of bytes that are asked. -/
def AskO (base : Nat) (r : Option Rq) (e : Ending) (w' : World) : Prop := match r with
  | none => e = leftV
  | some r => AskR base (kindT r) (epQ r) (ents r) e w'
/-- An entry in a box that is new. -/
structure Ent (wc wx : World) (X : Nat) (tx : Int) (d : ByteArray) : Prop where
  c0 : wx.cell? ⟨X, 0, none⟩ = some (.int .i64 tx)
  c1 : wx.cell? ⟨X, 1, none⟩ = some (.string d)
  bel : Below wc.heap.size wc wx
theorem ent_a {wc w2 : World} {tx : Int} {d : ByteArray} {u v : Value} (h0 : w2.cell? ⟨wc.heap.size, 0, none⟩ = some u) (h1 : w2.cell? ⟨wc.heap.size, 1, none⟩ = some v) (hb : Below wc.heap.size wc w2) : Ent wc ((w2.setCell ⟨wc.heap.size, 0, none⟩ (.int .i64 tx)).setCell ⟨wc.heap.size, 1, none⟩ (.string d)) wc.heap.size tx d := by
  obtain ⟨k0, k1⟩ := two_set (u' := .int .i64 tx) (v' := .string d) h0 h1
  exact ⟨k0, k1, Below.setCell (Below.setCell hb (Nat.le_refl _) _) (Nat.le_refl _) _⟩
theorem ent_b {wc w2 : World} {tx : Int} {d : ByteArray} {T : TypeId} (hb : Below wc.heap.size wc w2) : Ent wc (w2.alloc (.cells #[.int .i64 tx, .string d] T)) w2.heap.size tx d :=
  ⟨World.cell?_alloc_new w2 _ _ 0, World.cell?_alloc_new w2 _ _ 1, bel_tr hb (bel_al _ _)⟩

set_option maxRecDepth 100000 in
set_option maxHeartbeats 2000000 in
theorem ask_num {w : World} {a : Option Addr} {b off : Nat} {k e : ByteArray} {rest : List ByteArray} (h : Strs w a b off (k :: e :: rest)) (m q : Nat) (hm : rest.length = m) (hq : m ≤ q) (hm3 : m ≤ 1000) (hnum : numP e = none) :
    Calls Tryz.prog 67 #[.slice a (2 + m) (2 + q)] w fun x w' => x = leftV ∧ Below w.heap.size w w' := by
  obtain rfl := h.addr (by simp)
  have c0 : w.cell? ⟨b, off, none⟩ = some (.string k) := h.cell 0 (by simp)
  have c1 : w.cell? ⟨b, off + 1, none⟩ = some (.string e) := h.cell 1 (by simp)
  have hes := h.small e (by simp)
  have hks := h.small k (by simp)
  have hi0 : (0 : Int) < 2 + (m : Int) := by omega
  have hi1 : (1 : Int) < 2 + (m : Int) := by omega
  have hd2 : decide ((2 : Int) ≤ 2 + (m : Int)) = true := decide_eq_true (by omega)
  have HY : Hid (∀ W, Calls Tryz.prog 94 #[.bool true] W fun e w' => e = .returned (.tuple #[]) ∧ w' = W) := need_yes
  have HF : Hid (∀ W, Calls Tryz.prog 94 #[.bool false] W fun e w' => e = leftV ∧ w' = W) := need_no
  have CN : Hid (∀ W, Calls Tryz.prog 95 #[.string e] W fun x w' => x = leftV ∧ Below W.heap.size W w') := fun W => takeNumber_no e hes hnum W
  clear hes hnum
  go_enter Tryz.func67, Tryz.ntmps67
  go_upto_region 2 with (go_at_call 94; refine (HY.out _).mono ?_; rintro x wy ⟨rfl, hwy⟩; have hwy2 := hwy.symm; clear hwy; subst hwy2)
  have A1 := Ask3.new w ⟨#[]⟩ 0 (.slice none 0 0) 121
  have B1 : Hid (Below w.heap.size w (w.alloc (.cells #[.string ⟨#[]⟩, .int .i64 0, .slice none 0 0] 121))) := bel_al _ _
  have hz1 : (w.alloc (.cells #[.string ⟨#[]⟩, .int .i64 0, .slice none 0 0] 121)).heap.size = w.heap.size + 1 := by simp
  have d0 := bel_cell B1.out c0
  have d1 := bel_cell B1.out c1
  generalize w.alloc (.cells #[.string ⟨#[]⟩, .int .i64 0, .slice none 0 0] 121) = W1 at *
  have HA1 : Hid (Ask3 W1 w.heap.size ⟨#[]⟩ 0 (.slice none 0 0)) := A1
  have HZ1 : Hid (W1.heap.size = w.heap.size + 1) := hz1
  have HSS : Hid (Strs w (some ⟨b, off, none⟩) b off (k :: e :: rest)) := h
  clear A1 hz1 c0 c1 h
  have d0a := cell_al d0
  have d1a := cell_al d1
  refine wp_region_any (by kernel_rfl) ?_
  try (change wpAny _ _ _ _ _ _ _ (World.drew _))
  refine wpAny_take (i := 0) (v := ?_) rfl (by kernel_rfl) (by kernel_rfl) (by kernel_rfl) (fun _ _ _ h => h) (Or.inl ⟨by rfl, ?_⟩) ?_
  rotate_left
  · intro w; go_simp; first | done | with_reducible rfl
  refine wpAny_take (i := 1) (v := ?_) rfl (by kernel_rfl) (by kernel_rfl) (by kernel_rfl) (fun _ _ _ h => h) (Or.inl ⟨by rfl, ?_⟩) ?_
  rotate_left
  · intro w; go_simp; first | done | with_reducible rfl
  refine wpAny_take (i := 3) (v := ?_) rfl (by kernel_rfl) (by kernel_rfl) (by kernel_rfl) (fun _ _ _ h => h) (Or.inl ⟨by rfl, ?_⟩) ?_
  rotate_left
  · intro w; go_simp; first | done | with_reducible rfl
  refine wpAny_take (i := 4) (v := ?_) rfl (by kernel_rfl) (by kernel_rfl) (by kernel_rfl) (fun _ _ _ h => h) (Or.inl ⟨by rfl, ?_⟩) ?_
  rotate_left
  · intro w; go_simp; first | done | with_reducible rfl
  refine wpAny_ready (rs := [2, 5, 8]) (by kernel_rfl) (by simp) ?_
  refine AllReady.cons rfl (fun K hK => ?_) ?_
  · go_simp
    refine hK _ _ ?_
    clear hK K
    refine wpAny_ready (rs := [5, 8]) (by kernel_rfl) (by simp) ?_
    refine AllReady.cons rfl (fun K hK => ?_) ?_
    · go_simp
      refine hK _ _ ?_
      clear hK K
      refine wpAny_ready (rs := [6, 8]) (by kernel_rfl) (by simp) ?_
      refine AllReady.cons rfl (fun K hK => ?_) ?_
      · go_simp
        refine (CN.out _).mono ?_; rintro x w2 ⟨rfl, b2⟩; exact ⟨rfl, rfl, bel_tr B1.out (by first | exact bel_tr (bel_dr1 W1) b2 | exact bel_tr (bel_tr (bel_dr1 W1) (bel_al _ _)) b2 | exact bel_tr (bel_tr (bel_al W1 _) (bel_dr1 _)) b2)⟩
      refine AllReady.cons rfl (fun K hK => ?_) ?_
      · go_simp
        refine hK _ _ ?_
        clear hK K
        refine wpAny_ready (rs := [6]) (by kernel_rfl) (by simp) ?_
        refine AllReady.cons rfl (fun K hK => ?_) ?_
        · go_simp
          refine (CN.out _).mono ?_; rintro x w2 ⟨rfl, b2⟩; exact ⟨rfl, rfl, bel_tr B1.out (by first | exact bel_tr (bel_dr1 W1) b2 | exact bel_tr (bel_tr (bel_dr1 W1) (bel_al _ _)) b2 | exact bel_tr (bel_tr (bel_al W1 _) (bel_dr1 _)) b2)⟩
        exact AllReady.nil
      exact AllReady.nil
    refine AllReady.cons rfl (fun K hK => ?_) ?_
    · go_simp
      refine hK _ _ ?_
      clear hK K
      refine wpAny_ready (rs := [5]) (by kernel_rfl) (by simp) ?_
      refine AllReady.cons rfl (fun K hK => ?_) ?_
      · go_simp
        refine hK _ _ ?_
        clear hK K
        refine wpAny_ready (rs := [6]) (by kernel_rfl) (by simp) ?_
        refine AllReady.cons rfl (fun K hK => ?_) ?_
        · go_simp
          refine (CN.out _).mono ?_; rintro x w2 ⟨rfl, b2⟩; exact ⟨rfl, rfl, bel_tr B1.out (by first | exact bel_tr (bel_dr1 W1) b2 | exact bel_tr (bel_tr (bel_dr1 W1) (bel_al _ _)) b2 | exact bel_tr (bel_tr (bel_al W1 _) (bel_dr1 _)) b2)⟩
        exact AllReady.nil
      exact AllReady.nil
    exact AllReady.nil
  refine AllReady.cons rfl (fun K hK => ?_) ?_
  · go_simp
    refine hK _ _ ?_
    clear hK K
    refine wpAny_ready (rs := [2, 6, 8]) (by kernel_rfl) (by simp) ?_
    refine AllReady.cons rfl (fun K hK => ?_) ?_
    · go_simp
      refine hK _ _ ?_
      clear hK K
      refine wpAny_ready (rs := [6, 8]) (by kernel_rfl) (by simp) ?_
      refine AllReady.cons rfl (fun K hK => ?_) ?_
      · go_simp
        refine (CN.out _).mono ?_; rintro x w2 ⟨rfl, b2⟩; exact ⟨rfl, rfl, bel_tr B1.out (by first | exact bel_tr (bel_dr1 W1) b2 | exact bel_tr (bel_tr (bel_dr1 W1) (bel_al _ _)) b2 | exact bel_tr (bel_tr (bel_al W1 _) (bel_dr1 _)) b2)⟩
      refine AllReady.cons rfl (fun K hK => ?_) ?_
      · go_simp
        refine hK _ _ ?_
        clear hK K
        refine wpAny_ready (rs := [6]) (by kernel_rfl) (by simp) ?_
        refine AllReady.cons rfl (fun K hK => ?_) ?_
        · go_simp
          refine (CN.out _).mono ?_; rintro x w2 ⟨rfl, b2⟩; exact ⟨rfl, rfl, bel_tr B1.out (by first | exact bel_tr (bel_dr1 W1) b2 | exact bel_tr (bel_tr (bel_dr1 W1) (bel_al _ _)) b2 | exact bel_tr (bel_tr (bel_al W1 _) (bel_dr1 _)) b2)⟩
        exact AllReady.nil
      exact AllReady.nil
    refine AllReady.cons rfl (fun K hK => ?_) ?_
    · go_simp
      refine (CN.out _).mono ?_; rintro x w2 ⟨rfl, b2⟩; exact ⟨rfl, rfl, bel_tr B1.out (by first | exact bel_tr (bel_dr1 W1) b2 | exact bel_tr (bel_tr (bel_dr1 W1) (bel_al _ _)) b2 | exact bel_tr (bel_tr (bel_al W1 _) (bel_dr1 _)) b2)⟩
    refine AllReady.cons rfl (fun K hK => ?_) ?_
    · go_simp
      refine hK _ _ ?_
      clear hK K
      refine wpAny_ready (rs := [2, 6]) (by kernel_rfl) (by simp) ?_
      refine AllReady.cons rfl (fun K hK => ?_) ?_
      · go_simp
        refine hK _ _ ?_
        clear hK K
        refine wpAny_ready (rs := [6]) (by kernel_rfl) (by simp) ?_
        refine AllReady.cons rfl (fun K hK => ?_) ?_
        · go_simp
          refine (CN.out _).mono ?_; rintro x w2 ⟨rfl, b2⟩; exact ⟨rfl, rfl, bel_tr B1.out (by first | exact bel_tr (bel_dr1 W1) b2 | exact bel_tr (bel_tr (bel_dr1 W1) (bel_al _ _)) b2 | exact bel_tr (bel_tr (bel_al W1 _) (bel_dr1 _)) b2)⟩
        exact AllReady.nil
      refine AllReady.cons rfl (fun K hK => ?_) ?_
      · go_simp
        refine (CN.out _).mono ?_; rintro x w2 ⟨rfl, b2⟩; exact ⟨rfl, rfl, bel_tr B1.out (by first | exact bel_tr (bel_dr1 W1) b2 | exact bel_tr (bel_tr (bel_dr1 W1) (bel_al _ _)) b2 | exact bel_tr (bel_tr (bel_al W1 _) (bel_dr1 _)) b2)⟩
      exact AllReady.nil
    exact AllReady.nil
  refine AllReady.cons rfl (fun K hK => ?_) ?_
  · go_simp
    refine hK _ _ ?_
    clear hK K
    refine wpAny_ready (rs := [2, 5]) (by kernel_rfl) (by simp) ?_
    refine AllReady.cons rfl (fun K hK => ?_) ?_
    · go_simp
      refine hK _ _ ?_
      clear hK K
      refine wpAny_ready (rs := [5]) (by kernel_rfl) (by simp) ?_
      refine AllReady.cons rfl (fun K hK => ?_) ?_
      · go_simp
        refine hK _ _ ?_
        clear hK K
        refine wpAny_ready (rs := [6]) (by kernel_rfl) (by simp) ?_
        refine AllReady.cons rfl (fun K hK => ?_) ?_
        · go_simp
          refine (CN.out _).mono ?_; rintro x w2 ⟨rfl, b2⟩; exact ⟨rfl, rfl, bel_tr B1.out (by first | exact bel_tr (bel_dr1 W1) b2 | exact bel_tr (bel_tr (bel_dr1 W1) (bel_al _ _)) b2 | exact bel_tr (bel_tr (bel_al W1 _) (bel_dr1 _)) b2)⟩
        exact AllReady.nil
      exact AllReady.nil
    refine AllReady.cons rfl (fun K hK => ?_) ?_
    · go_simp
      refine hK _ _ ?_
      clear hK K
      refine wpAny_ready (rs := [2, 6]) (by kernel_rfl) (by simp) ?_
      refine AllReady.cons rfl (fun K hK => ?_) ?_
      · go_simp
        refine hK _ _ ?_
        clear hK K
        refine wpAny_ready (rs := [6]) (by kernel_rfl) (by simp) ?_
        refine AllReady.cons rfl (fun K hK => ?_) ?_
        · go_simp
          refine (CN.out _).mono ?_; rintro x w2 ⟨rfl, b2⟩; exact ⟨rfl, rfl, bel_tr B1.out (by first | exact bel_tr (bel_dr1 W1) b2 | exact bel_tr (bel_tr (bel_dr1 W1) (bel_al _ _)) b2 | exact bel_tr (bel_tr (bel_al W1 _) (bel_dr1 _)) b2)⟩
        exact AllReady.nil
      refine AllReady.cons rfl (fun K hK => ?_) ?_
      · go_simp
        refine (CN.out _).mono ?_; rintro x w2 ⟨rfl, b2⟩; exact ⟨rfl, rfl, bel_tr B1.out (by first | exact bel_tr (bel_dr1 W1) b2 | exact bel_tr (bel_tr (bel_dr1 W1) (bel_al _ _)) b2 | exact bel_tr (bel_tr (bel_al W1 _) (bel_dr1 _)) b2)⟩
      exact AllReady.nil
    exact AllReady.nil
  exact AllReady.nil
end Go.Proofs.YtfmhmokbbkliaaaGreat.Jrn

/- The contract of journal.takeRequest, where its second text is a number. -/
namespace Go.Proofs.YtfmhmokbbkliaaaGreat.Jrn
open Go.RowKit Go.Proofs.YtfmhmokbbkliaaaGreat Go.Proofs.YtfmhmokbbkliaaaGreat.Wir Go.Proofs.YtfmhmokbbkliaaaGreat.Lgg
set_option linter.unusedVariables false

set_option maxRecDepth 100000 in
set_option maxHeartbeats 2000000 in
theorem ask_any {w : World} {a : Option Addr} {b off : Nat} {k e : ByteArray} {rest : List ByteArray} (h : Strs w a b off (k :: e :: rest)) (m q : Nat) (hm : rest.length = m) (hq : m ≤ q) (hm3 : m ≤ 1000) (ep : Int) (hnum : numP e = some ep) (r : Option Rq) (HQ : (if epR ep = true then kindQ k ep rest else none) = r) :
    Calls Tryz.prog 67 #[.slice a (2 + m) (2 + q)] w fun x w' => AskO w.heap.size r x w' ∧ Below w.heap.size w w' := by
  obtain rfl := h.addr (by simp)
  have c0 : w.cell? ⟨b, off, none⟩ = some (.string k) := h.cell 0 (by simp)
  have c1 : w.cell? ⟨b, off + 1, none⟩ = some (.string e) := h.cell 1 (by simp)
  have hes := h.small e (by simp)
  have hks := h.small k (by simp)
  have hi0 : (0 : Int) < 2 + (m : Int) := by omega
  have hi1 : (1 : Int) < 2 + (m : Int) := by omega
  have hd2 : decide ((2 : Int) ≤ 2 + (m : Int)) = true := decide_eq_true (by omega)
  have HY : Hid (∀ W, Calls Tryz.prog 94 #[.bool true] W fun e w' => e = .returned (.tuple #[]) ∧ w' = W) := need_yes
  have HF : Hid (∀ W, Calls Tryz.prog 94 #[.bool false] W fun e w' => e = leftV ∧ w' = W) := need_no
  have CN : Hid (∀ W, Calls Tryz.prog 95 #[.string e] W fun x w' => x = .returned (.int .i64 ep) ∧ Below W.heap.size W w') := fun W => takeNumber_yes e hes ep hnum W
  clear hes hnum
  go_enter Tryz.func67, Tryz.ntmps67
  go_upto_region 2 with (go_at_call 94; refine (HY.out _).mono ?_; rintro x wy ⟨rfl, hwy⟩; have hwy2 := hwy.symm; clear hwy; subst hwy2)
  have A1 := Ask3.new w ⟨#[]⟩ 0 (.slice none 0 0) 121
  have B1 : Hid (Below w.heap.size w (w.alloc (.cells #[.string ⟨#[]⟩, .int .i64 0, .slice none 0 0] 121))) := bel_al _ _
  have hz1 : (w.alloc (.cells #[.string ⟨#[]⟩, .int .i64 0, .slice none 0 0] 121)).heap.size = w.heap.size + 1 := by simp
  have d0 := bel_cell B1.out c0
  have d1 := bel_cell B1.out c1
  generalize w.alloc (.cells #[.string ⟨#[]⟩, .int .i64 0, .slice none 0 0] 121) = W1 at *
  have HA1 : Hid (Ask3 W1 w.heap.size ⟨#[]⟩ 0 (.slice none 0 0)) := A1
  have HZ1 : Hid (W1.heap.size = w.heap.size + 1) := hz1
  have HSS : Hid (Strs w (some ⟨b, off, none⟩) b off (k :: e :: rest)) := h
  clear A1 hz1 c0 c1 h
  go_cut [3] (fun v wx => ∃ R, v = .pointer (some ⟨R, 0, none⟩) ∧ Got W1 wx R k ep)
  case first =>
    have hst := fun (w : World) (a : Addr) (x : ByteArray) (m : Mode) => run_store (P := Tryz.prog) w a (.string x) m rfl
    have hst2 : ∀ (w : World) (a : Addr) (x : Option Addr) (n c : Nat) (m : Mode), (store a (.slice x n c) m).run Tryz.prog w = stored Tryz.prog w a (.slice x n c) m := fun w a x n c m => run_store (P := Tryz.prog) w a _ m rfl
    go_region_held3 (fun w' => w'.cell? ⟨b, off, none⟩ = some (.string k) ∧ w'.cell? ⟨b, off + 1, none⟩ = some (.string e))
      (first | (refine ⟨bel_cell B2.out d0, bel_cell B2.out d1⟩; done) | (refine ⟨bel_cell (got_b B2.out).bel d0, bel_cell (got_b B2.out).bel d1⟩; done) | (refine ⟨bel_cell (got_a Y9.out (Nat.le_refl _) B2.out).bel d0, bel_cell (got_a Y9.out (Nat.le_refl _) B2.out).bel d1⟩; done) | go_keep)
      (first
        | (go_at_call 95; refine (CN.out _).mono ?_; rintro x w2 ⟨rfl, b2⟩; have B2 : Hid (Below W1.heap.size W1 w2) := bel_tr (bel_dr1 W1) b2; clear b2)
        | (go_at_call 95; refine (CN.out _).mono ?_; rintro x w2 ⟨rfl, b2⟩; have y9 : Ask3 w2 W1.heap.size ⟨#[]⟩ 0 (.slice none 0 0) := (Ask3.new W1.drew ⟨#[]⟩ 0 (.slice none 0 0) 121).below b2; have y0 := y9.c0; have y1 := y9.c1; have y2 := y9.c2; have f0 := y9.fr 0; have f1 := y9.fr 1; have f2 := y9.fr 2; have Y9 : Hid (Ask3 w2 W1.heap.size ⟨#[]⟩ 0 (.slice none 0 0)) := y9; clear y9; have B2 : Hid (Below W1.heap.size W1 w2) := bel_tr (bel_tr (bel_dr1 W1) (bel_al _ _)) b2; clear b2))
    all_goals
      go_wp2
      go_meet
      case rel => first | exact ⟨_, rfl, got_a Y9.out (Nat.le_refl _) B2.out⟩ | exact ⟨_, rfl, got_b B2.out⟩
  case rest =>
  obtain ⟨R, rfl, hG⟩ := hcut
  have HG : Hid (Got W1 wc R k ep) := hG
  have HAW : Hid (Ask3 wc w.heap.size ⟨#[]⟩ 0 (.slice none 0 0)) := HA1.out.below hG.bel
  have HBW : Hid (Below w.heap.size w wc) := bel_tr B1.out hG.bel
  have HRB : Hid (w.heap.size < R) := (by have h1 := hG.ge; have h2 := HZ1.out; show _ < R; omega)
  have x0 := hG.ask.c0
  have x1 := hG.ask.c1
  have x2 := hG.ask.c2
  clear hG HA1 B1 d0 d1 HZ1
  cases hep : epR ep with
  | false =>
    rw [hep, if_neg (by simp)] at HQ
    subst HQ
    have hep2 : ¬ 1 ≤ ep ∨ (1 ≤ ep ∧ ¬ ep ≤ 9007199254740991) := by
      by_cases h1 : 1 ≤ ep
      · refine .inr ⟨h1, fun h2 => ?_⟩
        rw [(epR_iff ep).2 ⟨h1, h2⟩] at hep; cases hep
      · exact .inl h1
    clear hep
    rcases hep2 with h1 | ⟨h1, h2⟩
    · go_wp2_with (go_at_call 94; refine (HF.out _).mono ?_; rintro x wy ⟨rfl, rfl⟩)
      exact ⟨rfl, rfl, HBW.out⟩
    · go_wp2_with (go_at_call 94; refine (HF.out _).mono ?_; rintro x wy ⟨rfl, rfl⟩)
      exact ⟨rfl, rfl, HBW.out⟩
  | true =>
    rw [hep, if_pos rfl] at HQ
    obtain ⟨p1, p2⟩ := (epR_iff ep).1 hep
    have HEP : Hid (epR ep = true) := hep
    clear hep
    unfold maxN at p2
    go_upto_region 4 with (go_at_call 94; refine (HY.out _).mono ?_; rintro x wy ⟨rfl, hwy⟩; have hwy2 := hwy.symm; clear hwy; subst hwy2)
    rename World => wv
    go_cut [4] (fun v wx => ∃ a2 b2 off2, v = .slice a2 m q ∧ Strs wv a2 b2 off2 rest ∧ wx = wv)
    case first =>
      have hS := HSS.out.below HBW.out
      have hS2 := strs_drop hS
      by_cases hq0 : q = 0
      · subst hq0
        obtain rfl : m = 0 := by omega
        obtain rfl : rest = [] := List.length_eq_zero_iff.1 hm
        clear hS hS2
        go_wp2
        go_meet
        case rel => exact ⟨_, 0, 0, rfl, ⟨fun h => (by simp at h), fun j h => (by simp at h), fun s h => (by simp at h), (by show 0 ≤ maxLen; omega)⟩, rfl⟩
      · have hS9 : Hid (Strs wv (some ⟨b, off + 2, none⟩) b (off + 2) rest) := hS2
        clear hS hS2
        go_wp2
        go_meet
        case rel => exact ⟨_, _, _, rfl, hS9.out, rfl⟩
    case rest =>
      obtain ⟨a2, b2, off2, rfl, hS, hw⟩ := hcut
      obtain rfl : wv = wc := hw.symm
      rename World => wc
      clear hw
      have HS2 : Hid (Strs wc a2 b2 off2 rest) := hS
      clear hS HSS
      by_cases hk : k = pT
      · have hq : kindQ k ep rest = if rest.length = 0 then some (.prom ep) else none := by unfold kindQ; rw [if_pos hk]
        rw [hq] at HQ
        subst hk
        clear hks hq
        by_cases h0 : m = 0
        · rw [if_pos (by omega)] at HQ
          subst HQ
          subst h0
          have g0 := HAW.out.c0
          have g1 := HAW.out.c1
          have g2 := HAW.out.c2
          have f0 := HAW.out.fr 0
          have f1 := HAW.out.fr 1
          have f2 := HAW.out.fr 2
          have hst := fun (w : World) (a : Addr) (x : ByteArray) (m : Mode) => run_store (P := Tryz.prog) w a (.string x) m rfl
          have hst2 : ∀ (w : World) (a : Addr) (x : Option Addr) (n c : Nat) (m : Mode), (store a (.slice x n c) m).run Tryz.prog w = stored Tryz.prog w a (.slice x n c) m := fun w a x n c m => run_store (P := Tryz.prog) w a _ m rfl
          unfold pT at x0
          go_wp2_with (go_at_call 94; refine (HY.out _).mono ?_; rintro x wy ⟨rfl, hwy⟩; have hwy2 := hwy.symm; clear hwy; subst hwy2)
          obtain ⟨F1, F2, F3⟩ := fin3 (k := ⟨#[112]⟩) (ep := ep) (es := []) (a := none) (c := 0) HAW.out (.nil rfl rfl rfl) HBW.out rfl
          try simp only [List.length_nil] at F1 F3
          refine bodyPost_ret (v := .agg #[.string ⟨#[112]⟩, .int .i64 ep, .slice none 0 0]) ?_ rfl ⟨⟨_, _, _, rfl, F2⟩, F3⟩
          simp only [results, Tryz.results67]
          have F10 := F1.c0
          have F11 := F1.c1
          have F12 := F1.c2
          simp [go_sem, F10, F11, F12]
        · rw [if_neg (by omega)] at HQ
          subst HQ
          have h0i : ¬ (m : Int) = 0 := by omega
          have h0b : ((m : Int) == 0) = false := beq_eq_false_iff_ne.2 h0i
          unfold pT at x0
          go_wp2_with (go_at_call 94; refine (HF.out _).mono ?_; rintro x wy ⟨rfl, rfl⟩)
          exact ⟨rfl, rfl, HBW.out⟩
      by_cases hk2 : k = aT
      · have hq : kindQ k ep rest = if smallB rest = true then some (.acc ep (numd rest)) else none := by unfold kindQ; rw [if_neg hk, if_pos hk2]
        rw [hq] at HQ
        subst hk2
        clear hks hq hk
        have CU : Hid (∀ W, Below wc.heap.size wc W → Calls Tryz.prog 110 #[.slice a2 m q] W fun x w' => EnsR W.heap.size (numd rest) x w' ∧ Below W.heap.size W w') := fun W hb => numbered_val (HS2.out.below hb) m q hm hm3 _ rfl
        have hnl := numd_len rest
        rw [hm] at hnl
        have HNL : Hid ((numd rest).length = m) := hnl
        have hst := fun (w : World) (a : Addr) (x : ByteArray) (m : Mode) => run_store (P := Tryz.prog) w a (.string x) m rfl
        have hst2 : ∀ (w : World) (a : Addr) (x : Option Addr) (n c : Nat) (m : Mode), (store a (.slice x n c) m).run Tryz.prog w = stored Tryz.prog w a (.slice x n c) m := fun w a x n c m => run_store (P := Tryz.prog) w a _ m rfl
        unfold aT at x0
        clear hm hnl
        go_upto_region 11 with (go_at_call 110; refine (CU.out _ (Below.refl _ _)).mono ?_; rintro x w5 ⟨⟨ea, ec, eg, hxe, hC⟩, b5⟩; rw [HNL.out] at hxe hC; subst hxe; have B5 : Hid (Below wc.heap.size wc w5) := b5; have HC5 : Hid (Cel (fun z => wc.heap.size ≤ z) w5 2 (.slice ea m ec) m (rowC enC (numd rest)) eg) := hC; have A5 : Hid (Ask3 w5 R ⟨#[97]⟩ ep (.slice none 0 0)) := HG.out.ask.below b5; clear hC b5 x0 x1 x2; have x0 := A5.out.c0; have x1 := A5.out.c1; have x2 := A5.out.c2; have xf2 := A5.out.fr 2)
        have hRw : R < wc.heap.size := HG.out.ask.lt
        have HA6 : Hid (Ask3 (w5.setCell ⟨R, 2, none⟩ (.slice ea m ec)) R ⟨#[97]⟩ ep (.slice ea m ec)) := A5.out.putS _
        have HR6 : Hid (Ask3 (w5.setCell ⟨R, 2, none⟩ (.slice ea m ec)) w.heap.size ⟨#[]⟩ 0 (.slice none 0 0)) := (HAW.out.below B5.out).other (by have := HRB.out; omega)
        have HC6 : Hid (Cel (fun z => w.heap.size < z) (w5.setCell ⟨R, 2, none⟩ (.slice ea m ec)) 2 (.slice ea m ec) m (rowC enC (numd rest)) eg) := by
          have h8 := HC5.out.setOut ⟨R, 2, none⟩ (.slice ea m ec) (fun e => by have h9 := HC5.out; rw [e] at h9; have h7 : wc.heap.size ≤ R := h9.lt.2; omega)
          exact h8.stay (Nat.le_refl _) (fun _ _ => rfl) (fun z hz => by have h9 : wc.heap.size ≤ z := hz; have := HBW.out.size; have := HRB.out; omega)
        have HB6 : Hid (Below w.heap.size w (w5.setCell ⟨R, 2, none⟩ (.slice ea m ec))) := Below.setCell (bel_tr HBW.out B5.out) (by have := HRB.out; show _ ≤ R; omega) _
        have z0 := HA6.out.c0
        have z1 := HA6.out.c1
        have z2 := HA6.out.c2
        generalize w5.setCell ⟨R, 2, none⟩ (.slice ea m ec) = W6 at *
        clear x0 x1 x2 xf2 A5 HC5 B5 hRw
        cases hs : smallB rest with
        | true =>
          rw [hs, if_pos rfl] at HQ
          subst HQ
          have CR : Hid (Calls Tryz.prog 44 #[.agg #[.int .i64 ep, .slice ea m ec]] W6 fun x w' => x = .returned (.bool true) ∧ Below W6.heap.size W6 w') := by
            have hC := HC6.out
            have h9 : Cel (fun z => w.heap.size < z) W6 2 (.slice ea (numd rest).length ec) (numd rest).length (rowC enC (numd rest)) eg := by rw [HNL.out]; exact hC
            exact right_val (Lie.of_cel wideN h9) (fun x hx => by obtain ⟨i, hi, rfl⟩ := List.getElem_of_mem hx; rw [numd_at]; exact HS2.out.small _ (List.getElem_mem _)) ep m ec HNL.out true ⟨fun _ => numd_right (epR_ok HEP.out) hs, fun _ => rfl⟩
          go_wp2_with (first | (go_at_call 94; refine (HY.out _).mono ?_; rintro x wy ⟨rfl, hwy⟩; have hwy2 := hwy.symm; clear hwy; subst hwy2) | (go_at_call 44; refine CR.out.mono ?_; rintro x w7 ⟨rfl, b7⟩; have A7 : Hid (Ask3 w7 R ⟨#[97]⟩ ep (.slice ea m ec)) := HA6.out.below b7; have R7 : Hid (Ask3 w7 w.heap.size ⟨#[]⟩ 0 (.slice none 0 0)) := HR6.out.below b7; have C7 : Hid (Cel (fun z => w.heap.size < z) w7 2 (.slice ea m ec) m (rowC enC (numd rest)) eg) := HC6.out.below b7; have B7 : Hid (Below w.heap.size w w7) := bel_tr HB6.out b7; clear b7 z0 z1 z2; have z0 := A7.out.c0; have z1 := A7.out.c1; have z2 := A7.out.c2; have g0 := R7.out.c0; have g1 := R7.out.c1; have g2 := R7.out.c2; have f0 := R7.out.fr 0; have f1 := R7.out.fr 1; have f2 := R7.out.fr 2))
          have C8 : Cel (fun z => w.heap.size < z) w7 2 (.slice ea (numd rest).length ec) (numd rest).length (rowC enC (numd rest)) eg := by rw [HNL.out]; exact C7.out
          obtain ⟨F1, F2, F3⟩ := fin3 (k := ⟨#[97]⟩) (ep := ep) R7.out C8 B7.out rfl
          try simp only [List.length_cons, List.length_nil, Nat.zero_add] at F1 F3
          rw [HNL.out] at F1 F2 F3
          refine bodyPost_ret (v := .agg #[.string ⟨#[97]⟩, .int .i64 ep, .slice ea m ec]) ?_ rfl ⟨⟨ea, ec, eg, by show _ = Ending.returned (.agg #[_, _, .slice ea (numd rest).length ec]); rw [HNL.out]; rfl, by show Cel _ _ 2 (.slice ea (numd rest).length ec) (numd rest).length (rowC enC (numd rest)) eg; rw [HNL.out]; exact F2⟩, F3⟩
          simp only [results, Tryz.results67]
          have F10 := F1.c0
          have F11 := F1.c1
          have F12 := F1.c2
          simp [go_sem, F10, F11, F12]
        | false =>
          rw [hs] at HQ
          rw [if_neg (by simp)] at HQ
          subst HQ
          have CR : Hid (Calls Tryz.prog 44 #[.agg #[.int .i64 ep, .slice ea m ec]] W6 fun x w' => x = .returned (.bool false) ∧ Below W6.heap.size W6 w') := by
            have hC := HC6.out
            have h9 : Cel (fun z => w.heap.size < z) W6 2 (.slice ea (numd rest).length ec) (numd rest).length (rowC enC (numd rest)) eg := by rw [HNL.out]; exact hC
            exact right_val (Lie.of_cel wideN h9) (fun x hx => by obtain ⟨i, hi, rfl⟩ := List.getElem_of_mem hx; rw [numd_at]; exact HS2.out.small _ (List.getElem_mem _)) ep m ec HNL.out false ⟨fun e => (by cases e), fun hR => by rw [(numd_not hR).2] at hs; cases hs⟩
          go_wp2_with (first | (go_at_call 94; refine (HF.out _).mono ?_; rintro x wy ⟨rfl, rfl⟩) | (go_at_call 44; refine CR.out.mono ?_; rintro x w7 ⟨rfl, b7⟩; have B7 : Hid (Below w.heap.size w w7) := bel_tr HB6.out b7; clear b7))
          exact ⟨rfl, rfl, B7.out⟩
      by_cases hk3 : k = wT
      · have hq : kindQ k ep rest = wQ ep rest := by unfold kindQ; rw [if_neg hk, if_neg hk2, if_pos hk3]
        rw [hq] at HQ
        subst hk3
        clear hks hq hk hk2
        by_cases h0 : m = 2
        · obtain ⟨t, d, rfl⟩ : ∃ t d, rest = [t, d] := by
            match rest, hm with
            | [t, d], _ => exact ⟨t, d, rfl⟩
            | [], h => exact absurd h (by simp; omega)
            | [_], h => exact absurd h (by simp; omega)
            | _ :: _ :: _ :: _, h => exact absurd h (by simp; omega)
          unfold wQ at HQ
          simp only at HQ
          obtain rfl := HS2.out.addr (by simp)
          have u0 : wc.cell? ⟨b2, off2, none⟩ = some (.string t) := HS2.out.cell 0 (by simp)
          have u1 : wc.cell? ⟨b2, off2 + 1, none⟩ = some (.string d) := HS2.out.cell 1 (by simp)
          have htz := HS2.out.small t (by simp)
          have hdz := HS2.out.small d (by simp)
          unfold wT at x0
          clear hm hm3
          subst h0
          cases ht : numP t with
          | none =>
            rw [ht] at HQ
            simp only at HQ
            subst HQ
            have CT : Hid (∀ W, Calls Tryz.prog 95 #[.string t] W fun x w' => x = leftV ∧ Below W.heap.size W w') := fun W => takeNumber_no t htz ht W
            clear ht htz hdz
            go_upto_region 14 with (go_at_call 94; refine (HY.out _).mono ?_; rintro x wy ⟨rfl, hwy⟩; have hwy2 := hwy.symm; clear hwy; subst hwy2)
            have u0a := cell_al u0
            have u1a := cell_al u1
            refine wp_region_any (by kernel_rfl) ?_
            try (change wpAny _ _ _ _ _ _ _ (World.drew _))
            refine wpAny_take (i := 0) (v := ?_) rfl (by kernel_rfl) (by kernel_rfl) (by kernel_rfl) (fun _ _ _ h => h) (Or.inl ⟨by rfl, ?_⟩) ?_
            rotate_left
            · intro w; go_simp; first | done | with_reducible rfl
            refine wpAny_take (i := 1) (v := ?_) rfl (by kernel_rfl) (by kernel_rfl) (by kernel_rfl) (fun _ _ _ h => h) (Or.inl ⟨by rfl, ?_⟩) ?_
            rotate_left
            · intro w; go_simp; first | done | with_reducible rfl
            refine wpAny_take (i := 4) (v := ?_) rfl (by kernel_rfl) (by kernel_rfl) (by kernel_rfl) (fun _ _ _ h => h) (Or.inl ⟨by rfl, ?_⟩) ?_
            rotate_left
            · intro w; go_simp; first | done | with_reducible rfl
            refine wpAny_take (i := 5) (v := ?_) rfl (by kernel_rfl) (by kernel_rfl) (by kernel_rfl) (fun _ _ _ h => h) (Or.inl ⟨by rfl, ?_⟩) ?_
            rotate_left
            · intro w; go_simp; first | done | with_reducible rfl
            refine wpAny_ready (rs := [2, 6, 8]) (by kernel_rfl) (by simp) ?_
            refine AllReady.cons rfl (fun K hK => ?_) ?_
            · go_simp
              refine hK _ _ ?_
              clear hK K
              refine wpAny_ready (rs := [3, 6, 8]) (by kernel_rfl) (by simp) ?_
              refine AllReady.cons rfl (fun K hK => ?_) ?_
              · go_simp
                refine (CT.out _).mono ?_; rintro x w2 ⟨rfl, b2⟩; exact ⟨rfl, rfl, bel_tr HBW.out (by first | exact bel_tr (bel_dr1 _) b2 | exact bel_tr (bel_tr (bel_dr1 _) (bel_al _ _)) b2 | exact bel_tr (bel_tr (bel_al _ _) (bel_dr1 _)) b2)⟩
              refine AllReady.cons rfl (fun K hK => ?_) ?_
              · go_simp
                refine hK _ _ ?_
                clear hK K
                refine wpAny_ready (rs := [3, 8]) (by kernel_rfl) (by simp) ?_
                refine AllReady.cons rfl (fun K hK => ?_) ?_
                · go_simp
                  refine (CT.out _).mono ?_; rintro x w2 ⟨rfl, b2⟩; exact ⟨rfl, rfl, bel_tr HBW.out (by first | exact bel_tr (bel_dr1 _) b2 | exact bel_tr (bel_tr (bel_dr1 _) (bel_al _ _)) b2 | exact bel_tr (bel_tr (bel_al _ _) (bel_dr1 _)) b2)⟩
                refine AllReady.cons rfl (fun K hK => ?_) ?_
                · go_simp
                  refine hK _ _ ?_
                  clear hK K
                  refine wpAny_ready (rs := [3]) (by kernel_rfl) (by simp) ?_
                  refine AllReady.cons rfl (fun K hK => ?_) ?_
                  · go_simp
                    refine (CT.out _).mono ?_; rintro x w2 ⟨rfl, b2⟩; exact ⟨rfl, rfl, bel_tr HBW.out (by first | exact bel_tr (bel_dr1 _) b2 | exact bel_tr (bel_tr (bel_dr1 _) (bel_al _ _)) b2 | exact bel_tr (bel_tr (bel_al _ _) (bel_dr1 _)) b2)⟩
                  exact AllReady.nil
                exact AllReady.nil
              refine AllReady.cons rfl (fun K hK => ?_) ?_
              · go_simp
                refine hK _ _ ?_
                clear hK K
                refine wpAny_ready (rs := [3, 6]) (by kernel_rfl) (by simp) ?_
                refine AllReady.cons rfl (fun K hK => ?_) ?_
                · go_simp
                  refine (CT.out _).mono ?_; rintro x w2 ⟨rfl, b2⟩; exact ⟨rfl, rfl, bel_tr HBW.out (by first | exact bel_tr (bel_dr1 _) b2 | exact bel_tr (bel_tr (bel_dr1 _) (bel_al _ _)) b2 | exact bel_tr (bel_tr (bel_al _ _) (bel_dr1 _)) b2)⟩
                refine AllReady.cons rfl (fun K hK => ?_) ?_
                · go_simp
                  refine hK _ _ ?_
                  clear hK K
                  refine wpAny_ready (rs := [3]) (by kernel_rfl) (by simp) ?_
                  refine AllReady.cons rfl (fun K hK => ?_) ?_
                  · go_simp
                    refine (CT.out _).mono ?_; rintro x w2 ⟨rfl, b2⟩; exact ⟨rfl, rfl, bel_tr HBW.out (by first | exact bel_tr (bel_dr1 _) b2 | exact bel_tr (bel_tr (bel_dr1 _) (bel_al _ _)) b2 | exact bel_tr (bel_tr (bel_al _ _) (bel_dr1 _)) b2)⟩
                  exact AllReady.nil
                exact AllReady.nil
              exact AllReady.nil
            refine AllReady.cons rfl (fun K hK => ?_) ?_
            · go_simp
              refine hK _ _ ?_
              clear hK K
              refine wpAny_ready (rs := [2, 8]) (by kernel_rfl) (by simp) ?_
              refine AllReady.cons rfl (fun K hK => ?_) ?_
              · go_simp
                refine hK _ _ ?_
                clear hK K
                refine wpAny_ready (rs := [3, 8]) (by kernel_rfl) (by simp) ?_
                refine AllReady.cons rfl (fun K hK => ?_) ?_
                · go_simp
                  refine (CT.out _).mono ?_; rintro x w2 ⟨rfl, b2⟩; exact ⟨rfl, rfl, bel_tr HBW.out (by first | exact bel_tr (bel_dr1 _) b2 | exact bel_tr (bel_tr (bel_dr1 _) (bel_al _ _)) b2 | exact bel_tr (bel_tr (bel_al _ _) (bel_dr1 _)) b2)⟩
                refine AllReady.cons rfl (fun K hK => ?_) ?_
                · go_simp
                  refine hK _ _ ?_
                  clear hK K
                  refine wpAny_ready (rs := [3]) (by kernel_rfl) (by simp) ?_
                  refine AllReady.cons rfl (fun K hK => ?_) ?_
                  · go_simp
                    refine (CT.out _).mono ?_; rintro x w2 ⟨rfl, b2⟩; exact ⟨rfl, rfl, bel_tr HBW.out (by first | exact bel_tr (bel_dr1 _) b2 | exact bel_tr (bel_tr (bel_dr1 _) (bel_al _ _)) b2 | exact bel_tr (bel_tr (bel_al _ _) (bel_dr1 _)) b2)⟩
                  exact AllReady.nil
                exact AllReady.nil
              refine AllReady.cons rfl (fun K hK => ?_) ?_
              · go_simp
                refine hK _ _ ?_
                clear hK K
                refine wpAny_ready (rs := [2]) (by kernel_rfl) (by simp) ?_
                refine AllReady.cons rfl (fun K hK => ?_) ?_
                · go_simp
                  refine hK _ _ ?_
                  clear hK K
                  refine wpAny_ready (rs := [3]) (by kernel_rfl) (by simp) ?_
                  refine AllReady.cons rfl (fun K hK => ?_) ?_
                  · go_simp
                    refine (CT.out _).mono ?_; rintro x w2 ⟨rfl, b2⟩; exact ⟨rfl, rfl, bel_tr HBW.out (by first | exact bel_tr (bel_dr1 _) b2 | exact bel_tr (bel_tr (bel_dr1 _) (bel_al _ _)) b2 | exact bel_tr (bel_tr (bel_al _ _) (bel_dr1 _)) b2)⟩
                  exact AllReady.nil
                exact AllReady.nil
              exact AllReady.nil
            refine AllReady.cons rfl (fun K hK => ?_) ?_
            · go_simp
              refine hK _ _ ?_
              clear hK K
              refine wpAny_ready (rs := [2, 6]) (by kernel_rfl) (by simp) ?_
              refine AllReady.cons rfl (fun K hK => ?_) ?_
              · go_simp
                refine hK _ _ ?_
                clear hK K
                refine wpAny_ready (rs := [3, 6]) (by kernel_rfl) (by simp) ?_
                refine AllReady.cons rfl (fun K hK => ?_) ?_
                · go_simp
                  refine (CT.out _).mono ?_; rintro x w2 ⟨rfl, b2⟩; exact ⟨rfl, rfl, bel_tr HBW.out (by first | exact bel_tr (bel_dr1 _) b2 | exact bel_tr (bel_tr (bel_dr1 _) (bel_al _ _)) b2 | exact bel_tr (bel_tr (bel_al _ _) (bel_dr1 _)) b2)⟩
                refine AllReady.cons rfl (fun K hK => ?_) ?_
                · go_simp
                  refine hK _ _ ?_
                  clear hK K
                  refine wpAny_ready (rs := [3]) (by kernel_rfl) (by simp) ?_
                  refine AllReady.cons rfl (fun K hK => ?_) ?_
                  · go_simp
                    refine (CT.out _).mono ?_; rintro x w2 ⟨rfl, b2⟩; exact ⟨rfl, rfl, bel_tr HBW.out (by first | exact bel_tr (bel_dr1 _) b2 | exact bel_tr (bel_tr (bel_dr1 _) (bel_al _ _)) b2 | exact bel_tr (bel_tr (bel_al _ _) (bel_dr1 _)) b2)⟩
                  exact AllReady.nil
                exact AllReady.nil
              refine AllReady.cons rfl (fun K hK => ?_) ?_
              · go_simp
                refine hK _ _ ?_
                clear hK K
                refine wpAny_ready (rs := [2]) (by kernel_rfl) (by simp) ?_
                refine AllReady.cons rfl (fun K hK => ?_) ?_
                · go_simp
                  refine hK _ _ ?_
                  clear hK K
                  refine wpAny_ready (rs := [3]) (by kernel_rfl) (by simp) ?_
                  refine AllReady.cons rfl (fun K hK => ?_) ?_
                  · go_simp
                    refine (CT.out _).mono ?_; rintro x w2 ⟨rfl, b2⟩; exact ⟨rfl, rfl, bel_tr HBW.out (by first | exact bel_tr (bel_dr1 _) b2 | exact bel_tr (bel_tr (bel_dr1 _) (bel_al _ _)) b2 | exact bel_tr (bel_tr (bel_al _ _) (bel_dr1 _)) b2)⟩
                  exact AllReady.nil
                exact AllReady.nil
              exact AllReady.nil
            exact AllReady.nil
          | some tx =>
            rw [ht] at HQ
            simp only at HQ
            have CT : Hid (∀ W, Calls Tryz.prog 95 #[.string t] W fun x w' => x = .returned (.int .i64 tx) ∧ Below W.heap.size W w') := fun W => takeNumber_yes t htz tx ht W
            obtain ⟨vx, hx⟩ : ∃ v, addR1 ⟨tx, d⟩ = v := ⟨_, rfl⟩
            have CM : Hid (∀ W, Calls Tryz.prog 49 #[.agg #[.int .i64 tx, .string d]] W fun x w' => x = .returned (.bool vx) ∧ Below W.heap.size W w') := fun W => mayBeAdded_val ⟨tx, d⟩ hdz vx hx W
            rw [hx] at HQ
            clear ht htz hdz hx
            go_upto_region 14 with (go_at_call 94; refine (HY.out _).mono ?_; rintro x wy ⟨rfl, hwy⟩; have hwy2 := hwy.symm; clear hwy; subst hwy2)
            go_cut [5] (fun v wx => ∃ X, v = .pointer (some ⟨X, 0, none⟩) ∧ Ent wc wx X tx d)
            case first =>
              have hst := fun (w : World) (a : Addr) (x : ByteArray) (m : Mode) => run_store (P := Tryz.prog) w a (.string x) m rfl
              have hst2 : ∀ (w : World) (a : Addr) (x : Option Addr) (n c : Nat) (m : Mode), (store a (.slice x n c) m).run Tryz.prog w = stored Tryz.prog w a (.slice x n c) m := fun w a x n c m => run_store (P := Tryz.prog) w a _ m rfl
              go_region_held3 (fun w' => w'.cell? ⟨b2, off2, none⟩ = some (.string t) ∧ w'.cell? ⟨b2, off2 + 1, none⟩ = some (.string d))
                (first | (refine ⟨bel_cell B2.out u0, bel_cell B2.out u1⟩; done) | (refine ⟨bel_cell (ent_b B2.out).bel u0, bel_cell (ent_b B2.out).bel u1⟩; done) | (refine ⟨bel_cell (ent_a Y9.out.1 Y9.out.2 B2.out).bel u0, bel_cell (ent_a Y9.out.1 Y9.out.2 B2.out).bel u1⟩; done) | go_keep)
                (first
                  | (go_at_call 95; refine (CT.out _).mono ?_; rintro x w2 ⟨rfl, b2⟩; have B2 : Hid (Below wc.heap.size wc w2) := bel_tr (bel_dr1 wc) b2; clear b2)
                  | (go_at_call 95; refine (CT.out _).mono ?_; rintro x w2 ⟨rfl, b2⟩; obtain ⟨v0, v1, v2, v3⟩ := cells2 wc.drew (.int .i64 0) (.string ⟨#[]⟩) 24; have y0 : w2.cell? ⟨wc.heap.size, 0, none⟩ = some (.int .i64 0) := bel_cell b2 v0; have y1 : w2.cell? ⟨wc.heap.size, 1, none⟩ = some (.string ⟨#[]⟩) := bel_cell b2 v1; have f0 : w2.frozen? ⟨wc.heap.size, 0, none⟩ = false := (World.frozen?_of_block (a := ⟨wc.heap.size, 0, none⟩) (b2.block wc.heap.size (by simp))).trans v2; have f1 : w2.frozen? ⟨wc.heap.size, 1, none⟩ = false := (World.frozen?_of_block (a := ⟨wc.heap.size, 1, none⟩) (b2.block wc.heap.size (by simp))).trans v3; clear v0 v1 v2 v3; have Y9 : Hid (w2.cell? ⟨wc.heap.size, 0, none⟩ = some (.int .i64 0) ∧ w2.cell? ⟨wc.heap.size, 1, none⟩ = some (.string ⟨#[]⟩)) := ⟨y0, y1⟩; have B2 : Hid (Below wc.heap.size wc w2) := bel_tr (bel_tr (bel_dr1 wc) (bel_al _ _)) b2; clear b2))
              all_goals
                go_wp2
                go_meet
                case rel => first | exact ⟨_, rfl, ent_a Y9.out.1 Y9.out.2 B2.out⟩ | exact ⟨_, rfl, ent_b B2.out⟩
            case rest =>
              rename World => wk
              obtain ⟨X, rfl, hX⟩ := hcut
              have HX : Hid (Ent wc wk X tx d) := hX
              have A5 : Hid (Ask3 wk R ⟨#[119]⟩ ep (.slice none 0 0)) := HG.out.ask.below hX.bel
              have R5 : Hid (Ask3 wk w.heap.size ⟨#[]⟩ 0 (.slice none 0 0)) := HAW.out.below hX.bel
              have B5 : Hid (Below w.heap.size w wk) := bel_tr HBW.out hX.bel
              have e0 := hX.c0
              have e1 := hX.c1
              clear hX x0 x1 x2 u0 u1
              cases vx with
              | false =>
                rw [if_neg (by simp)] at HQ
                subst HQ
                go_wp2_with (first | (go_at_call 94; refine (HF.out _).mono ?_; rintro x wy ⟨rfl, rfl⟩) | (go_at_call 49; refine (CM.out _).mono ?_; rintro x w7 ⟨rfl, b7⟩; have B7 : Hid (Below w.heap.size w w7) := bel_tr B5.out b7; clear b7))
                exact ⟨rfl, rfl, B7.out⟩
              | true =>
                rw [if_pos rfl] at HQ
                subst HQ
                have hst := fun (w : World) (a : Addr) (x : ByteArray) (m : Mode) => run_store (P := Tryz.prog) w a (.string x) m rfl
                have hst2 : ∀ (w : World) (a : Addr) (x : Option Addr) (n c : Nat) (m : Mode), (store a (.slice x n c) m).run Tryz.prog w = stored Tryz.prog w a (.slice x n c) m := fun w a x n c m => run_store (P := Tryz.prog) w a _ m rfl
                go_upto_region 16 with (first | (go_at_call 94; refine (HY.out _).mono ?_; rintro x wy ⟨rfl, hwy⟩; have hwy2 := hwy.symm; clear hwy; subst hwy2) | (go_at_call 49; refine (CM.out _).mono ?_; rintro x w7 ⟨rfl, b7⟩; have A7 : Hid (Ask3 w7 R ⟨#[119]⟩ ep (.slice none 0 0)) := A5.out.below b7; have R7 : Hid (Ask3 w7 w.heap.size ⟨#[]⟩ 0 (.slice none 0 0)) := R5.out.below b7; have B7 : Hid (Below w.heap.size w w7) := bel_tr B5.out b7; have e0' := bel_cell b7 e0; have e1' := bel_cell b7 e1; clear b7 e0 e1))
                have A8 : Hid (Ask3 (w7.alloc (.cells #[.int .i64 tx, .string d] 24)) R ⟨#[119]⟩ ep (.slice none 0 0)) := A7.out.below (bel_al _ _)
                have hR7 : R < w7.heap.size := A7.out.lt
                have A9 : Hid (Ask3 ((w7.alloc (.cells #[.int .i64 tx, .string d] 24)).setCell ⟨R, 2, none⟩ (.slice (some ⟨w7.heap.size, 0, none⟩) 1 1)) R ⟨#[119]⟩ ep (.slice (some ⟨w7.heap.size, 0, none⟩) 1 1)) := A8.out.putS _
                have R9 : Hid (Ask3 ((w7.alloc (.cells #[.int .i64 tx, .string d] 24)).setCell ⟨R, 2, none⟩ (.slice (some ⟨w7.heap.size, 0, none⟩) 1 1)) w.heap.size ⟨#[]⟩ 0 (.slice none 0 0)) := (R7.out.below (bel_al _ _)).other (by have := HRB.out; omega)
                have C9 : Hid (Cel (fun z => w.heap.size < z) ((w7.alloc (.cells #[.int .i64 tx, .string d] 24)).setCell ⟨R, 2, none⟩ (.slice (some ⟨w7.heap.size, 0, none⟩) 1 1)) 2 (.slice (some ⟨w7.heap.size, 0, none⟩) 1 1) 1 (rowC enC [⟨tx, d⟩]) (some w7.heap.size)) := by
                  have h8 := cel_new w7 w7.heap.size (Nat.le_refl _) [.int .i64 tx, .string d] 24 2 1 rfl (by unfold maxLen; omega)
                  have h9 := h8.setOut ⟨R, 2, none⟩ (.slice (some ⟨w7.heap.size, 0, none⟩) 1 1) (fun e => by have h7 := Option.some.inj e; simp only at h7; omega)
                  exact h9.stay (Nat.le_refl _) (fun _ _ => rfl) (fun z hz => by have h9 : w7.heap.size ≤ z := hz; have := HRB.out; omega)
                have B9 : Hid (Below w.heap.size w ((w7.alloc (.cells #[.int .i64 tx, .string d] 24)).setCell ⟨R, 2, none⟩ (.slice (some ⟨w7.heap.size, 0, none⟩) 1 1))) := Below.setCell (bel_tr B7.out (bel_al _ _)) (by have := HRB.out; show _ ≤ R; omega) _
                have x0 := A7.out.c0
                have x1 := A7.out.c1
                have x2 := A8.out.c2
                have xf2 := A8.out.fr 2
                clear A8 hR7 A7 R7 B7 A5 R5 B5
                go_upto_region 17 with fail
                generalize (w7.alloc (.cells #[.int .i64 tx, .string d] 24)).setCell ⟨R, 2, none⟩ (.slice (some ⟨w7.heap.size, 0, none⟩) 1 1) = W9 at *
                generalize w7.heap.size = EB at *
                clear x0 x1 x2 xf2 e0' e1'
                have z0 := A9.out.c0
                have z1 := A9.out.c1
                have z2 := A9.out.c2
                have g0 := R9.out.c0
                have g1 := R9.out.c1
                have g2 := R9.out.c2
                have f0 := R9.out.fr 0
                have f1 := R9.out.fr 1
                have f2 := R9.out.fr 2
                go_wp2
                obtain ⟨F1, F2, F3⟩ := fin3 (k := ⟨#[119]⟩) (ep := ep) (es := [⟨tx, d⟩]) R9.out C9.out B9.out rfl
                try simp only [List.length_cons, List.length_nil, Nat.zero_add] at F1 F3
                refine bodyPost_ret (v := .agg #[.string ⟨#[119]⟩, .int .i64 ep, .slice (some ⟨EB, 0, none⟩) 1 1]) ?_ rfl ⟨⟨_, _, _, rfl, F2⟩, F3⟩
                simp only [results, Tryz.results67]
                have F10 := F1.c0
                have F11 := F1.c1
                have F12 := F1.c2
                simp [go_sem, F10, F11, F12]
        · have hno : r = none := by rw [← HQ]; exact wQ_not (by omega)
          subst hno
          have h0i : ¬ (m : Int) = 2 := by omega
          have h0b : ((m : Int) == 2) = false := beq_eq_false_iff_ne.2 h0i
          unfold wT at x0
          clear HQ
          go_wp2_with (go_at_call 94; refine (HF.out _).mono ?_; rintro x wy ⟨rfl, rfl⟩)
          exact ⟨rfl, rfl, HBW.out⟩
      have hq : kindQ k ep rest = none := by unfold kindQ; rw [if_neg hk, if_neg hk2, if_neg hk3]
      rw [hq] at HQ
      subst HQ
      have l1 : (k.toList == [112]) = false := list_ne hk
      have l2 : (k.toList == [97]) = false := list_ne hk2
      have l3 : (k.toList == [119]) = false := list_ne hk3
      clear hk hk2 hk3 hq hks
      go_wp2_with (go_at_call 94; refine (HF.out _).mono ?_; rintro x wy ⟨rfl, rfl⟩)
      exact ⟨rfl, rfl, HBW.out⟩
end Go.Proofs.YtfmhmokbbkliaaaGreat.Jrn

/- The contract of journal.taken, at requests. -/
namespace Go.Proofs.YtfmhmokbbkliaaaGreat.Jrn
open Go.RowKit Go.Proofs.YtfmhmokbbkliaaaGreat Go.Proofs.YtfmhmokbbkliaaaGreat.Wir Go.Proofs.YtfmhmokbbkliaaaGreat.Lgg
set_option linter.unusedVariables false

theorem strs_set {w : World} {a : Option Addr} {b p j : Nat} {ss : List ByteArray} {v : Value} (h : Strs w a b 0 ss) (hne : 0 < ss.length → p < b) : Strs (w.setCell ⟨p, j, none⟩ v) a b 0 ss :=
  ⟨h.addr, fun i hi => other (by have := hne (by omega); omega) (h.cell i hi), h.small, h.len⟩
theorem own_strs {w : World} {base : Nat} {e : TypeId} {v : Value} {n : Nat} {ss : List ByteArray} (h : w.ownsRow base e 1 v n (ss.map Value.string)) (hs : ∀ s ∈ ss, s.size ≤ maxLen) (hl : ss.length ≤ 1000) : ∃ a c b, v = .slice a n c ∧ ss.length = n ∧ n ≤ c ∧ Strs w a b 0 ss ∧ (0 < n → base ≤ b) := by
  have hlen := h.1
  simp at hlen
  subst hlen
  rcases h.2 with ⟨rfl, h0⟩ | ⟨g, cap, cur, rfl, hb, hg, hrest⟩
  · exact ⟨none, 0, 0, by rw [h0], rfl, by omega, ⟨fun hp => by omega, fun j hj => by omega, hs, by unfold maxLen; omega⟩, fun hp => by omega⟩
  · refine ⟨some ⟨g, 0, none⟩, cap, g, rfl, rfl, by omega, ⟨fun _ => rfl, fun j hj => ?_, hs, by unfold maxLen; omega⟩, fun _ => hb⟩
    have := h.cells (g := g) rfl j (.string ss[j]) (by simp [hj])
    rw [Addr.add_lit, Nat.zero_add] at this
    rw [Nat.zero_add]; exact this
theorem many_len : ∀ (n : Nat) (r : ByteArray) (ss : List ByteArray), takeMany n r = some ss → ss.length = n
  | 0, r, ss, h => by unfold takeMany at h; split at h <;> cases h; rfl
  | n + 1, r, ss, h => by
    unfold takeMany at h
    split at h
    · cases h
    · rename_i t q _
      cases hm : takeMany n q with
      | none => rw [hm] at h; cases h
      | some l => rw [hm] at h; cases h; simp [many_len n q l hm]
theorem split_len {s : ByteArray} {ss : List ByteArray} (h : splitL s = some ss) : ss.length ≤ 1000 := by
  unfold splitL at h
  split at h
  · cases h
  · rename_i n r hC
    rw [many_len n r ss h]
    obtain ⟨_, _, _, _, _, h, _⟩ := takeC_yes hC
    exact h
/-- A request that was taken, in new memory. -/
structure TkQ (base : Nat) (k : ByteArray) (ep : Int) (es : List En) (e : Ending) (w' : World) : Prop where
  ex : ∃ a c g, e = .returned (.tuple #[.agg #[.string k, .int .i64 ep, .slice a es.length c], .int .i64 0]) ∧ Cel (fun q => base ≤ q) w' 2 (.slice a es.length c) es.length (rowC enC es) g

theorem takeRequest_any {w : World} {a : Option Addr} {b off : Nat} {ts : List ByteArray} (h : Strs w a b off ts) (n c : Nat) (hn : ts.length = n) (hc : n ≤ c) (hl : n ≤ 1000) :
    Calls Tryz.prog 67 #[.slice a n c] w fun x w' => AskO w.heap.size (textsQ ts) x w' ∧ Below w.heap.size w w' := by
  match ts, hn with
  | [], hn => exact ask_few a n c (by simp at hn; omega)
  | [_], hn => exact ask_few a n c (by simp at hn; omega)
  | k :: e :: rest, hn =>
    obtain ⟨q, rfl⟩ : ∃ q, c = 2 + q := ⟨c - 2, by simp at hn; omega⟩
    obtain ⟨m, rfl⟩ : ∃ m, n = 2 + m := ⟨n - 2, by simp at hn; omega⟩
    have hm : rest.length = m := by simp at hn; omega
    cases hnum : numP e with
    | none =>
      have e1 : textsQ (k :: e :: rest) = none := by simp only [textsQ, hnum]
      rw [e1]
      exact ask_num h m q hm (by omega) (by omega) hnum
    | some ep =>
      have e1 : textsQ (k :: e :: rest) = if epR ep = true then kindQ k ep rest else none := by simp only [textsQ, hnum]
      exact ask_any h m q hm (by omega) (by omega) ep hnum _ e1.symm
set_option maxRecDepth 100000 in
theorem catchQ_panic {R : Nat} {w : World} {u : Value} (h : w.cell? ⟨R, 0, none⟩ = some u) (f : w.frozen? ⟨R, 0, none⟩ = false) (older : List PanicEntry) :
    CallsD Tryz.prog 109 #[.pointer (some ⟨R, 0, none⟩)] (.panicking ({ v := .iface 26 (.int .i64 2), recovered := false } :: older)) w fun e u' w' =>
      e = .returned (.tuple #[]) ∧ u' = .panicking ({ v := .iface 26 (.int .i64 2), recovered := true } :: older) ∧ w' = w.setCell ⟨R, 0, none⟩ (.int .i64 2) := by
  refine callsD_of_wpS Tryz.func109 rfl fun c₀ cs hu => ?_
  apply wpS_seq
  apply wpS_region
  simp [wpOpsS, go_sem, recoverD, hu, Tryz.ntmps109, Exit.thenS]
  refine wpS_of_wp ?_
  go_wp2
  exact ⟨rfl, _, rfl, .tuple #[], by simp [results, Tryz.results109], rfl, rfl, rfl⟩
set_option maxRecDepth 100000 in
theorem catchQ_idle {R : Nat} {w : World} :
    CallsD Tryz.prog 109 #[.pointer (some ⟨R, 0, none⟩)] .returning w fun e u' w' => e = .returned (.tuple #[]) ∧ u' = .returning ∧ w' = w := by
  refine callsD_of_wpS Tryz.func109 rfl fun c₀ cs hu => ?_
  apply wpS_seq
  apply wpS_region
  simp [wpOpsS, go_sem, recoverD, hu, Tryz.ntmps109, Exit.thenS]
  refine wpS_of_wp ?_
  go_wp2
  cases c₀
  simp_all [bodyPostS, results, Tryz.results109]

/-- How 'taken' ends. -/
structure BoxQ (W : World) (b : Nat) (er : Int) (k : ByteArray) (ep : Int) (s : Value) : Prop where
  c0 : W.cell? ⟨b, 0, none⟩ = some (.string k)
  c1 : W.cell? ⟨b, 1, none⟩ = some (.int .i64 ep)
  c2 : W.cell? ⟨b, 2, none⟩ = some s
  ce : W.cell? ⟨b + 1, 0, none⟩ = some (.int .i64 er)
  fr : ∀ j, W.frozen? ⟨b, j, none⟩ = false
  fe : W.frozen? ⟨b + 1, 0, none⟩ = false
theorem BoxQ.stay {O : Nat → Prop} {W W' : World} {b : Nat} {er : Int} {k : ByteArray} {ep : Int} {s : Value} (h : BoxQ W b er k ep s) (hs : Stay O W W') (hO : ¬ O b) (hO1 : ¬ O (b + 1)) : BoxQ W' b er k ep s := by
  have e := hs.block b (World.block_lt_of_cell? _ _ h.c0) hO
  have e1 := hs.block (b + 1) (World.block_lt_of_cell? _ _ h.ce) hO1
  exact ⟨(World.cell?_of_block (a := ⟨b, 0, none⟩) e).trans h.c0, (World.cell?_of_block (a := ⟨b, 1, none⟩) e).trans h.c1, (World.cell?_of_block (a := ⟨b, 2, none⟩) e).trans h.c2, (World.cell?_of_block (a := ⟨b + 1, 0, none⟩) e1).trans h.ce, fun j => (World.frozen?_of_block (a := ⟨b, j, none⟩) e).trans (h.fr j), (World.frozen?_of_block (a := ⟨b + 1, 0, none⟩) e1).trans h.fe⟩
theorem BoxQ.below {W W' : World} {b : Nat} {er : Int} {k : ByteArray} {ep : Int} {s : Value} (h : BoxQ W b er k ep s) (hb : Below W.heap.size W W') : BoxQ W' b er k ep s := h.stay (O := fun _ => False) (Stay.of_below hb) id id
theorem boxQ_new (w : World) : BoxQ ((w.alloc (.cells #[.string ⟨#[]⟩, .int .i64 0, .slice none 0 0] 121)).alloc (.cells #[.int .i64 0] 26)) w.heap.size 0 ⟨#[]⟩ 0 (.slice none 0 0) := by
  have hz : (w.alloc (.cells #[.string ⟨#[]⟩, .int .i64 0, .slice none 0 0] 121)).heap.size = w.heap.size + 1 := by simp
  have b1 := bel_al (w.alloc (.cells #[.string ⟨#[]⟩, .int .i64 0, .slice none 0 0] 121)) (.cells #[.int .i64 0] 26)
  have e1 := World.cell?_alloc_new (w.alloc (.cells #[.string ⟨#[]⟩, .int .i64 0, .slice none 0 0] 121)) #[.int .i64 0] 26 0
  have e2 := World.frozen?_alloc_new (w.alloc (.cells #[.string ⟨#[]⟩, .int .i64 0, .slice none 0 0] 121)) #[.int .i64 0] 26 0
  rw [hz] at e1 e2
  exact ⟨bel_cell b1 (World.cell?_alloc_new w _ _ 0), bel_cell b1 (World.cell?_alloc_new w _ _ 1), bel_cell b1 (World.cell?_alloc_new w _ _ 2), e1, fun j => (World.frozen?_of_block (a := ⟨w.heap.size, j, none⟩) (b1.block w.heap.size (by omega))).trans (World.frozen?_alloc_new w _ _ j), e2⟩
theorem BoxQ.putE {W : World} {b : Nat} {er : Int} {k : ByteArray} {ep : Int} {s : Value} (h : BoxQ W b er k ep s) (er' : Int) : BoxQ (W.setCell ⟨b + 1, 0, none⟩ (.int .i64 er')) b er' k ep s :=
  ⟨other (by omega) h.c0, other (by omega) h.c1, other (by omega) h.c2, World.cell?_setCell_same _ _ _ h.ce, fun j => by rw [World.frozen?_setCell]; exact h.fr j, by rw [World.frozen?_setCell]; exact h.fe⟩

set_option maxRecDepth 100000 in
set_option maxHeartbeats 2000000 in
/-- It panics, or Split refuses. -/
theorem takenQ_no (s : ByteArray) (hs : s.size ≤ maxLen) (w : World) (hT : ∀ ts, splitL s = some ts → ∀ (W : World) (a : Option Addr) (b c n : Nat), Strs W a b 0 ts → ts.length = n → n ≤ c → Calls Tryz.prog 67 #[.slice a n c] W fun e w' => e = leftV ∧ Below W.heap.size W w') :
    Calls Tryz.prog 66 #[.string s, .func (.func 67) #[] #[]] w fun e w' => e = .returned (.tuple #[.agg #[.string ⟨#[]⟩, .int .i64 0, .slice none 0 0], .int .i64 2]) ∧ Below w.heap.size w w' := by
  have hmf : ∀ (fn : Fn) (first cap : Array Value) (w : World), (Instr.makeFunc fn first cap).run Tryz.prog w = .ok (.func fn first cap) w := fun _ _ _ _ => rfl
  have HS : Hid (∀ W, Calls Tryz.prog 93 #[.string s] W fun e w' => SplitEnds W.heap.size (.int .i64 0) (.int .i64 2) (splitL s) e w' ∧ Below W.heap.size W w') := fun W => split_any s W hs
  have HY : Hid (∀ W, Calls Tryz.prog 94 #[.bool true] W fun e w' => e = .returned (.tuple #[]) ∧ w' = W) := need_yes
  have HF : Hid (∀ W, Calls Tryz.prog 94 #[.bool false] W fun e w' => e = leftV ∧ w' = W) := need_no
  have HT : Hid (∀ ts, splitL s = some ts → ∀ (W : World) (a : Option Addr) (b c n : Nat), Strs W a b 0 ts → ts.length = n → n ≤ c → Calls Tryz.prog 67 #[.slice a n c] W fun e w' => e = leftV ∧ Below W.heap.size W w') := hT
  clear hT hs
  have hB0 := boxQ_new w
  have BB0 : Hid (Below w.heap.size w ((w.alloc (.cells #[.string ⟨#[]⟩, .int .i64 0, .slice none 0 0] 121)).alloc (.cells #[.int .i64 0] 26))) := bel_tr (bel_al _ _) (bel_al _ _)
  obtain ⟨RB, hRB⟩ : ∃ RB, w.heap.size = RB := ⟨_, rfl⟩
  have HRB : Hid (w.heap.size = RB) := hRB
  rw [hRB] at hB0
  have HB0 : Hid (BoxQ ((w.alloc (.cells #[.string ⟨#[]⟩, .int .i64 0, .slice none 0 0] 121)).alloc (.cells #[.int .i64 0] 26)) RB 0 ⟨#[]⟩ 0 (.slice none 0 0)) := hB0
  clear hB0
  go_enter_defers Tryz.func66, Tryz.ntmps66
  go_wp2_with fail
  clear hRB
  generalize (w.alloc (.cells #[.string ⟨#[]⟩, .int .i64 0, .slice none 0 0] 121)).alloc (.cells #[.int .i64 0] 26) = W2 at *
  refine (HS.out _).mono ?_
  rintro x w3 ⟨hx, b3⟩
  have BX3 : Hid (BoxQ w3 RB 0 ⟨#[]⟩ 0 (.slice none 0 0)) := HB0.out.below b3
  have B3 : Hid (Below w.heap.size w w3) := bel_tr BB0.out b3
  have e0 := BX3.out.ce
  have fe0 := BX3.out.fe
  clear b3
  cases hsp : splitL s with
  | none =>
    rw [hsp] at hx
    replace hx : x = .returned (.tuple #[.slice none 0 0, .int .i64 2]) := hx
    subst hx
    go_wp2_with (go_at_call 94; refine (HF.out _).mono ?_; rintro x wy ⟨rfl, hwy⟩; have hwy2 := hwy.symm; clear hwy; subst hwy2)
    have BX4 : Hid (BoxQ (w3.setCell ⟨RB + 1, 0, none⟩ (.int .i64 2)) RB 2 ⟨#[]⟩ 0 (.slice none 0 0)) := BX3.out.putE 2
    refine leaves_cons (f := 109) (args := #[.pointer (some ⟨RB + 1, 0, none⟩)]) (by simp) (by simp [go_sem]) ?_
    refine (catchQ_panic BX4.out.ce BX4.out.fe []).mono ?_
    rintro e u' w' ⟨rfl, rfl, rfl⟩
    have BX5 := BX4.out.putE 2
    have k0 := BX5.c0
    have k1 := BX5.c1
    have k2 := BX5.c2
    have k3 := BX5.ce
    refine ⟨.tuple #[.agg #[.string ⟨#[]⟩, .int .i64 0, .slice none 0 0], .int .i64 2], ?_, rfl, Below.setCell (Below.setCell B3.out (by have := HRB.out; show _ ≤ RB + 1; omega) _) (by have := HRB.out; show _ ≤ RB + 1; omega) _⟩
    simp only [results, Tryz.results66]
    simp [go_sem, k0, k1, k2, k3]
  | some ts =>
    rw [hsp] at hx
    obtain ⟨v, rfl, ho, hl, hsm⟩ := hx
    obtain ⟨a, c, b, rfl, hn, hc, hS, hbb⟩ := own_strs ho hsm hl
    obtain ⟨n, hnn⟩ : ∃ n, ts.length = n := ⟨_, rfl⟩
    rw [hnn] at hn hc hbb ⊢
    have BX4 : Hid (BoxQ (w3.setCell ⟨RB + 1, 0, none⟩ (.int .i64 0)) RB 0 ⟨#[]⟩ 0 (.slice none 0 0)) := BX3.out.putE 0
    have B4 : Hid (Below w.heap.size w (w3.setCell ⟨RB + 1, 0, none⟩ (.int .i64 0))) := Below.setCell B3.out (by have := HRB.out; show _ ≤ RB + 1; omega) _
    have hRW : RB + 1 < W2.heap.size := World.block_lt_of_cell? _ _ HB0.out.ce
    have CT : Hid (Calls Tryz.prog 67 #[.slice a n c] (w3.setCell ⟨RB + 1, 0, none⟩ (.int .i64 0)) fun e w' => e = leftV ∧ Below (w3.setCell ⟨RB + 1, 0, none⟩ (.int .i64 0)).heap.size (w3.setCell ⟨RB + 1, 0, none⟩ (.int .i64 0)) w') :=
      HT.out ts hsp _ a b c n (strs_set hS (fun hp => by have := hbb (by omega); omega)) hnn hc
    have z0 := BX4.out.ce
    clear hS hbb ho hsm hl hRW hsp HT
    go_wp2_with (first
      | (go_at_call 94; refine (HY.out _).mono ?_; rintro x wy ⟨rfl, hwy⟩; have hwy2 := hwy.symm; clear hwy; subst hwy2)
      | (go_at_call 67; refine CT.out.mono ?_; rintro x w5 ⟨rfl, b5⟩; have BX5 : Hid (BoxQ w5 RB 0 ⟨#[]⟩ 0 (.slice none 0 0)) := BX4.out.below b5; have B5 : Hid (Below w.heap.size w w5) := bel_tr B4.out b5; clear b5))
    refine leaves_cons (f := 109) (args := #[.pointer (some ⟨RB + 1, 0, none⟩)]) (by simp) (by simp [go_sem]) ?_
    refine (catchQ_panic BX5.out.ce BX5.out.fe []).mono ?_
    rintro e u' w' ⟨rfl, rfl, rfl⟩
    have BX6 := BX5.out.putE 2
    have k0 := BX6.c0
    have k1 := BX6.c1
    have k2 := BX6.c2
    have k3 := BX6.ce
    refine ⟨.tuple #[.agg #[.string ⟨#[]⟩, .int .i64 0, .slice none 0 0], .int .i64 2], ?_, rfl, Below.setCell B5.out (by have := HRB.out; show _ ≤ RB + 1; omega) _⟩
    simp only [results, Tryz.results66]
    simp [go_sem, k0, k1, k2, k3]

theorem BoxQ.sets {W : World} {b : Nat} {er : Int} {k : ByteArray} {ep : Int} {s : Value} (h : BoxQ W b er k ep s) (k' : ByteArray) (ep' : Int) (s' : Value) : BoxQ (((W.setCell ⟨b, 0, none⟩ (.string k')).setCell ⟨b, 1, none⟩ (.int .i64 ep')).setCell ⟨b, 2, none⟩ s') b er k' ep' s' :=
  ⟨cell_set (by omega) (cell_set (by omega) (World.cell?_setCell_same _ _ _ h.c0)), cell_set (by omega) (World.cell?_setCell_same _ _ _ (cell_set (by omega) h.c1)), World.cell?_setCell_same _ _ _ (cell_set (by omega) (cell_set (by omega) h.c2)),
    other (by omega) (other (by omega) (other (by omega) h.ce)), fun j => by rw [World.frozen?_setCell, World.frozen?_setCell, World.frozen?_setCell]; exact h.fr j, by rw [World.frozen?_setCell, World.frozen?_setCell, World.frozen?_setCell]; exact h.fe⟩
set_option maxRecDepth 100000 in
set_option maxHeartbeats 2000000 in
/-- It comes to its end. -/
theorem takenQ_yes (s : ByteArray) (hs : s.size ≤ maxLen) (w : World) {ts : List ByteArray} (hsp : splitL s = some ts) (k : ByteArray) (ep : Int) (es : List En) (hT : ∀ (W : World) (a : Option Addr) (b c n : Nat), Strs W a b 0 ts → ts.length = n → n ≤ c → Calls Tryz.prog 67 #[.slice a n c] W fun e w' => AskR W.heap.size k ep es e w' ∧ Below W.heap.size W w') :
    Calls Tryz.prog 66 #[.string s, .func (.func 67) #[] #[]] w fun e w' => TkQ w.heap.size k ep es e w' ∧ Below w.heap.size w w' := by
  have hmf : ∀ (fn : Fn) (first cap : Array Value) (w : World), (Instr.makeFunc fn first cap).run Tryz.prog w = .ok (.func fn first cap) w := fun _ _ _ _ => rfl
  have hst := fun (w : World) (a : Addr) (x : ByteArray) (m : Mode) => run_store (P := Tryz.prog) w a (.string x) m rfl
  have hst2 : ∀ (w : World) (a : Addr) (x : Option Addr) (n c : Nat) (m : Mode), (store a (.slice x n c) m).run Tryz.prog w = stored Tryz.prog w a (.slice x n c) m := fun w a x n c m => run_store (P := Tryz.prog) w a _ m rfl
  have HS : Hid (∀ W, Calls Tryz.prog 93 #[.string s] W fun e w' => SplitEnds W.heap.size (.int .i64 0) (.int .i64 2) (splitL s) e w' ∧ Below W.heap.size W w') := fun W => split_any s W hs
  have HY : Hid (∀ W, Calls Tryz.prog 94 #[.bool true] W fun e w' => e = .returned (.tuple #[]) ∧ w' = W) := need_yes
  have HT : Hid (∀ (W : World) (a : Option Addr) (b c n : Nat), Strs W a b 0 ts → ts.length = n → n ≤ c → Calls Tryz.prog 67 #[.slice a n c] W fun e w' => AskR W.heap.size k ep es e w' ∧ Below W.heap.size W w') := hT
  have HSP : Hid (splitL s = some ts) := hsp
  clear hT hs hsp
  have hB0 := boxQ_new w
  have BB0 : Hid (Below w.heap.size w ((w.alloc (.cells #[.string ⟨#[]⟩, .int .i64 0, .slice none 0 0] 121)).alloc (.cells #[.int .i64 0] 26))) := bel_tr (bel_al _ _) (bel_al _ _)
  obtain ⟨RB, hRB⟩ : ∃ RB, w.heap.size = RB := ⟨_, rfl⟩
  have HRB : Hid (w.heap.size = RB) := hRB
  rw [hRB] at hB0
  have HB0 : Hid (BoxQ ((w.alloc (.cells #[.string ⟨#[]⟩, .int .i64 0, .slice none 0 0] 121)).alloc (.cells #[.int .i64 0] 26)) RB 0 ⟨#[]⟩ 0 (.slice none 0 0)) := hB0
  clear hB0
  go_enter_defers Tryz.func66, Tryz.ntmps66
  go_wp2_with fail
  clear hRB
  generalize (w.alloc (.cells #[.string ⟨#[]⟩, .int .i64 0, .slice none 0 0] 121)).alloc (.cells #[.int .i64 0] 26) = W2 at *
  refine (HS.out _).mono ?_
  rintro x w3 ⟨hx, b3⟩
  have BX3 : Hid (BoxQ w3 RB 0 ⟨#[]⟩ 0 (.slice none 0 0)) := HB0.out.below b3
  have B3 : Hid (Below w.heap.size w w3) := bel_tr BB0.out b3
  have e0 := BX3.out.ce
  have fe0 := BX3.out.fe
  clear b3
  rw [HSP.out] at hx
  obtain ⟨v, rfl, ho, hl, hsm⟩ := hx
  obtain ⟨a, c, b, rfl, hn, hc, hS, hbb⟩ := own_strs ho hsm hl
  obtain ⟨n, hnn⟩ : ∃ n, ts.length = n := ⟨_, rfl⟩
  rw [hnn] at hn hc hbb ⊢
  have BX4 : Hid (BoxQ (w3.setCell ⟨RB + 1, 0, none⟩ (.int .i64 0)) RB 0 ⟨#[]⟩ 0 (.slice none 0 0)) := BX3.out.putE 0
  have B4 : Hid (Below w.heap.size w (w3.setCell ⟨RB + 1, 0, none⟩ (.int .i64 0))) := Below.setCell B3.out (by have := HRB.out; show _ ≤ RB + 1; omega) _
  have hRW : RB + 1 < W2.heap.size := World.block_lt_of_cell? _ _ HB0.out.ce
  have HGE : Hid (RB + 1 < (w3.setCell ⟨RB + 1, 0, none⟩ (.int .i64 0)).heap.size) := World.block_lt_of_cell? _ _ BX4.out.ce
  have CT : Hid (Calls Tryz.prog 67 #[.slice a n c] (w3.setCell ⟨RB + 1, 0, none⟩ (.int .i64 0)) fun e w' => AskR (w3.setCell ⟨RB + 1, 0, none⟩ (.int .i64 0)).heap.size k ep es e w' ∧ Below (w3.setCell ⟨RB + 1, 0, none⟩ (.int .i64 0)).heap.size (w3.setCell ⟨RB + 1, 0, none⟩ (.int .i64 0)) w') :=
    HT.out _ a b c n (strs_set hS (fun hp => by have := hbb (by omega); omega)) hnn hc
  have z0 := BX4.out.ce
  clear hS hbb ho hsm hl hRW HT
  go_wp2_with (first
    | (go_at_call 94; refine (HY.out _).mono ?_; rintro x wy ⟨rfl, hwy⟩; have hwy2 := hwy.symm; clear hwy; subst hwy2)
    | (go_at_call 67; refine CT.out.mono ?_; rintro x w5 ⟨⟨ea, ec, eg, hxe, hC⟩, b5⟩; subst hxe; have BX5 : Hid (BoxQ w5 RB 0 ⟨#[]⟩ 0 (.slice none 0 0)) := BX4.out.below b5; have B5 : Hid (Below w.heap.size w w5) := bel_tr B4.out b5; have HC5 : Hid (Cel (fun q => RB + 1 < q) w5 2 (.slice ea es.length ec) es.length (rowC enC es) eg) := hC.stay (Nat.le_refl _) (fun _ _ => rfl) (fun q hq => Nat.lt_of_lt_of_le HGE.out hq); clear b5 hC z0 e0 fe0; have y0 := BX5.out.c0; have y1 := BX5.out.c1; have y2 := BX5.out.c2; have ye := BX5.out.ce; have f0 := BX5.out.fr 0; have f1 := BX5.out.fr 1; have f2 := BX5.out.fr 2; have fe := BX5.out.fe))
  have BX6 : Hid (BoxQ (((w5.setCell ⟨RB, 0, none⟩ (.string k)).setCell ⟨RB, 1, none⟩ (.int .i64 ep)).setCell ⟨RB, 2, none⟩ (.slice ea es.length ec)) RB 0 k ep (.slice ea es.length ec)) := BX5.out.sets k ep (.slice ea es.length ec)
  have BX7 : Hid (BoxQ ((((w5.setCell ⟨RB, 0, none⟩ (.string k)).setCell ⟨RB, 1, none⟩ (.int .i64 ep)).setCell ⟨RB, 2, none⟩ (.slice ea es.length ec)).setCell ⟨RB + 1, 0, none⟩ (.int .i64 0)) RB 0 k ep (.slice ea es.length ec)) := BX6.out.putE 0
  have hs7 : Stay (fun q => q = RB ∨ q = RB + 1) w5 ((((w5.setCell ⟨RB, 0, none⟩ (.string k)).setCell ⟨RB, 1, none⟩ (.int .i64 ep)).setCell ⟨RB, 2, none⟩ (.slice ea es.length ec)).setCell ⟨RB + 1, 0, none⟩ (.int .i64 0)) :=
    (Stay.to (stay_sets w5 RB _ _ _) (fun q hq => .inl hq)).then_same (Stay.to (stay_set _ (RB + 1) 0 _) (fun q hq => .inr hq))
  have HB7 : Hid (Below w.heap.size w ((((w5.setCell ⟨RB, 0, none⟩ (.string k)).setCell ⟨RB, 1, none⟩ (.int .i64 ep)).setCell ⟨RB, 2, none⟩ (.slice ea es.length ec)).setCell ⟨RB + 1, 0, none⟩ (.int .i64 0))) := B5.out.trans (hs7.below B5.out.size (fun q hq => by have := HRB.out; omega))
  have HC7 : Hid (Cel (fun q => w.heap.size ≤ q) ((((w5.setCell ⟨RB, 0, none⟩ (.string k)).setCell ⟨RB, 1, none⟩ (.int .i64 ep)).setCell ⟨RB, 2, none⟩ (.slice ea es.length ec)).setCell ⟨RB + 1, 0, none⟩ (.int .i64 0)) 2 (.slice ea es.length ec) es.length (rowC enC es) eg) :=
    HC5.out.stay hs7.size (fun q hq => hs7.block q (by have h9 := HC5.out; rw [hq] at h9; exact h9.lt.1) (fun e => by have h9 := HC5.out; rw [hq] at h9; have h8 : RB + 1 < q := h9.lt.2; omega)) (fun q hq => by have h9 : RB + 1 < q := hq; have := HRB.out; omega)
  clear y0 y1 y2 ye f0 f1 f2 fe hs7 BX6 BX5 HC5 B5
  generalize ((((w5.setCell ⟨RB, 0, none⟩ (.string k)).setCell ⟨RB, 1, none⟩ (.int .i64 ep)).setCell ⟨RB, 2, none⟩ (.slice ea es.length ec)).setCell ⟨RB + 1, 0, none⟩ (.int .i64 0)) = W7 at *
  refine leaves_cons (f := 109) (args := #[.pointer (some ⟨RB + 1, 0, none⟩)]) (by simp) (by simp [go_sem]) ?_
  refine catchQ_idle.mono ?_
  rintro e u' w' ⟨rfl, rfl, rfl⟩
  have k0 := BX7.out.c0
  have k1 := BX7.out.c1
  have k2 := BX7.out.c2
  have k3 := BX7.out.ce
  refine ⟨.tuple #[.agg #[.string k, .int .i64 ep, .slice ea es.length ec], .int .i64 0], ?_, ⟨_, _, _, rfl, HC7.out⟩, HB7.out⟩
  simp only [results, Tryz.results66]
  simp [go_sem, k0, k1, k2, k3]

/-- What becomes of bytes that are to be a request. -/
def TkO (base : Nat) (r : Option Rq) (e : Ending) (w' : World) : Prop := match r with
  | none => e = .returned (.tuple #[.agg #[.string ⟨#[]⟩, .int .i64 0, .slice none 0 0], .int .i64 2])
  | some r => TkQ base (kindT r) (epQ r) (ents r) e w'
theorem taken_any (s : ByteArray) (hs : s.size ≤ maxLen) (w : World) : Calls Tryz.prog 66 #[.string s, .func (.func 67) #[] #[]] w fun e w' => TkO w.heap.size (readQ s) e w' ∧ Below w.heap.size w w' := by
  cases hr : readQ s with
  | none =>
    refine takenQ_no s hs w (fun ts hts W a b c n hS hn hc => ?_)
    have h1 : textsQ ts = none := by unfold readQ at hr; rw [hts] at hr; exact hr
    have h2 := takeRequest_any hS n c hn hc (by have := split_len hts; omega)
    rw [h1] at h2
    exact h2
  | some r =>
    cases hts : splitL s with
    | none => unfold readQ at hr; rw [hts] at hr; cases hr
    | some ts =>
      refine takenQ_yes s hs w hts (kindT r) (epQ r) (ents r) (fun W a b c n hS hn hc => ?_)
      have h1 : textsQ ts = some r := by unfold readQ at hr; rw [hts] at hr; exact hr
      have h2 := takeRequest_any hS n c hn hc (by have := split_len hts; omega)
      rw [h1] at h2
      exact h2
end Go.Proofs.YtfmhmokbbkliaaaGreat.Jrn

/- The contract of Journal.accept. -/
namespace Go.Proofs.YtfmhmokbbkliaaaGreat.Jrn
open Go.RowKit Go.Proofs.YtfmhmokbbkliaaaGreat Go.Proofs.YtfmhmokbbkliaaaGreat.Wir Go.Proofs.YtfmhmokbbkliaaaGreat.Lgg Go.Proofs.YtfmhmokbbkliaaaGreat.Sep
set_option linter.unusedVariables false

/-- A node, and the entries of a request. -/
def jrR (jp pd : Nat) (ds : DS) (j : Nd) (a : Option Addr) (n c : Nat) (es : List En) (g : Option Nat) : Th := all [jr jp pd ds j, celT 2 (.slice a n c) n (rowC enC es) g]
def freshO (ds : DS) (j : Nd) (ep : Int) (es : List En) : Out := fresh ds j ep es
theorem jr_ge {O : Nat → Prop} {w w1 : World} {jp pd : Nat} {ds : DS} {j : Nd} {a : Option Addr} {c : Nat} {g : Option Nat} {M : List Th} (h : Hz w O (jrL jp pd ds j a c g ++ M) w1) : w1.cell? ⟨jp, 0, none⟩ = some (dpt pd j) ∧ w1.cell? ⟨jp, 1, none⟩ = some (.int .i64 j.p) ∧ w1.cell? ⟨jp, 2, none⟩ = some (.int .i64 j.l.ep) ∧ w1.cell? ⟨jp, 3, none⟩ = some (.slice a j.l.es.length c) ∧ w1.cell? ⟨jp, 4, none⟩ = some (.bool j.gone) ∧ ∀ i, w1.frozen? ⟨jp, i, none⟩ = false :=
  ⟨h.cell 0 rfl rfl, h.cell 0 rfl rfl, h.cell 0 rfl rfl, h.cell 0 rfl rfl, h.cell 0 rfl rfl, h.fr 0 rfl⟩
theorem bel_dr1' (w : World) : Below w.heap.size w w.drew := (Below.refl _ w).drew
theorem dpt_on {pd : Nat} {j : Nd} (hg : j.gone = false) : dpt pd j = .pointer (some ⟨pd, 0, none⟩) := by unfold dpt; rw [hg]; rfl

set_option maxRecDepth 100000 in
set_option maxHeartbeats 2000000 in
/-- Behind the promise, if one was needed. -/
theorem accept_acts {jp pd : Nat} {ds : DS} {j : Nd} {w : World} (hg : j.gone = false) (ep : Int) (he : epR ep = true) (a : Option Addr) (n c : Nat) (es : List En) (g : Option Nat) (hn : es.length = n) (hR : RtL ⟨ep, es⟩) :
    Acts Tryz.prog 112 #[.pointer (some ⟨jp, 0, none⟩), .int .i64 ep, .slice a n c] (jrR jp pd ds j a n c es g) w (fun e _ => e = .returned (.int .i64 (accQ ds j ep es).e)) (jr jp pd (accQ ds j ep es).ds (accQ ds j ep es).j) := by
  intro O hS
  have hz : Hz w O [jr jp pd ds j, celT 2 (.slice a n c) n (rowC enC es) g] w := Hz.start hS
  have HZF : Hid (Hz w O [jr jp pd ds j, celT 2 (.slice a n c) n (rowC enC es) g] w) := hz
  obtain ⟨ja, jc, jg, hz2⟩ := jr_open hz
  obtain ⟨x0, x1, x2, x3, x4, fx⟩ := jr_ge hz2
  have HZ : Hid (Hz w O (jrL jp pd ds j ja jc jg ++ [celT 2 (.slice a n c) n (rowC enC es) g]) w) := hz2
  clear hz hS hz2 fx x4
  rw [dpt_on hg] at x0
  obtain ⟨P, hP⟩ : ∃ P, j.p = P := ⟨_, rfl⟩
  obtain ⟨E, hE⟩ : ∃ E, j.l.ep = E := ⟨_, rfl⟩
  rw [hP] at x1
  rw [hE] at x2
  by_cases h1 : ep < P
  · have e1 : accQ ds j ep es = ⟨10, ds, j⟩ := by unfold accQ; rw [if_pos (by omega)]
    rw [e1]
    clear e1 hP hE
    go_enter Tryz.func112, Tryz.ntmps112
    go_wp2
    go_ret
    exact ⟨rfl, HZF.out.done1⟩
  · by_cases h2 : ep = E
    · obtain ⟨q, hq⟩ : ∃ q, (if begB es j.l.es = true then (0 : Int) else 11) = q := ⟨_, rfl⟩
      have e1 : accQ ds j ep es = ⟨q, ds, j⟩ := by unfold accQ; rw [if_neg (by omega), if_pos (by omega), hq]
      rw [e1]
      have CB : Hid (Calls Tryz.prog 146 #[.pointer (some ⟨jp, 0, none⟩), .slice a n c] w fun e w' => e = .returned (.int .i64 q) ∧ Below w.heap.size w w') := by
        obtain ⟨O3, k3⟩ := HZ.out.get 2 rfl
        obtain ⟨O4, k4⟩ := HZ.out.get 3 rfl
        have k5 : Cel O4 w 2 (.slice a es.length c) es.length (rowC enC es) g := by rw [hn]; exact k4.1
        exact begins_val x3 (Lie.of_cel wideN k3.1) rfl k3.1.cap2.1 (Lie.of_cel wideN k5) hn q hq
      subst h2
      clear e1 hP hE hq hn hR
      go_enter Tryz.func112, Tryz.ntmps112
      go_wp2_with (go_at_call 146; refine CB.out.mono ?_; rintro e w1 ⟨rfl, b1⟩)
      go_ret
      exact ⟨rfl, (HZF.out.below b1).done1⟩
    · -- what follows once the epoch is promised
      have REST : Hid (∀ (W : World) (ds1 : DS) (j1 : Nd), j1.gone = false → Hz w O [jr jp pd ds1 j1, celT 2 (.slice a n c) n (rowC enC es) g] W → ∃ q ds2, stoR ds1 lgN (encL ⟨ep, es⟩) = (q, ds2) ∧
          (∀ W', Hz w O [box W.heap.size [.int .i64 ep, .slice a n c], jr jp pd ds1 j1, celT 2 (.slice a n c) n (rowC enC es) g] W' → Calls Tryz.prog 103 #[.pointer (some ⟨pd, 0, none⟩), .string lgN, .agg #[.int .i64 ep, .slice a n c]] W' fun e w' => e = .returned (.int .i64 q) ∧ Hz w O [box W.heap.size [.int .i64 ep, .slice a n c], jr jp pd ds2 j1, celT 2 (.slice a n c) n (rowC enC es) g] w')) := by
        intro W ds1 j1 hg1 hW
        obtain ⟨⟨q, ds2⟩, hq⟩ : ∃ r, stoR ds1 lgN (encL ⟨ep, es⟩) = r := ⟨_, rfl⟩
        refine ⟨q, ds2, hq, fun W' hW' => ?_⟩
        obtain ⟨O4, k4⟩ := hW'.get 2 rfl
        have k5 : Cel O4 W' 2 (.slice a es.length c) es.length (rowC enC es) g := by rw [hn]; exact k4.1
        obtain ⟨a1, c1, g1, hu⟩ := jr_open hW'.swap
        refine ((hu.act 1 rfl (store_acts (Lie.of_cel wideN k5) ep n c hn hR lgN lg_ok q hq)).mono ?_)
        rintro e w' ⟨k1, k2⟩
        exact ⟨k1, (jr_fold (M := [box W.heap.size [.int .i64 ep, .slice a n c], celT 2 (.slice a n c) n (rowC enC es) g]) k2).swap⟩
      -- MARK
      have HNN : Hid (es.length = n) := hn
      clear hn hR HZ
      by_cases h3 : P < ep
      · have CP : Hid (Acts Tryz.prog 111 #[.pointer (some ⟨jp, 0, none⟩), .int .i64 ep] (jr jp pd ds j) w (fun e _ => e = .returned (.int .i64 (promQ ds j ep).e)) (jr jp pd (promQ ds j ep).ds (promQ ds j ep).j)) := promiseJ_acts hg ep he
        have hac : accQ ds j ep es = if (promQ ds j ep).e = 0 then fresh (promQ ds j ep).ds (promQ ds j ep).j ep es else promQ ds j ep := by unfold accQ; rw [if_neg (by omega), if_neg (by omega), if_pos (by omega)]
        have hon : (promQ ds j ep).e = 0 → (promQ ds j ep).j.gone = false := fun h => by rw [promQ_on hg h]
        obtain ⟨⟨pe, pds, pj⟩, hpq⟩ : ∃ x, promQ ds j ep = x := ⟨_, rfl⟩
        rw [hpq] at CP hac hon
        simp only at CP hac hon
        have HAC : Hid (accQ ds j ep es = if pe = 0 then fresh pds pj ep es else ⟨pe, pds, pj⟩) := hac
        clear hac hpq hP hE
        by_cases hpe : pe = 0
        · subst hpe
          have hg1 := hon rfl
          clear hon
          go_enter Tryz.func112, Tryz.ntmps112
          go_upto_region 9 with (go_at_call 111; refine (HZF.out.act 0 rfl CP.out).mono ?_; rintro e w4 ⟨rfl, hz4⟩; have HZ4 : Hid (Hz w O [jr jp pd pds pj, celT 2 (.slice a n c) n (rowC enC es) g] w4) := hz4; clear hz4)
          obtain ⟨q, ds2, hq, CS⟩ := REST.out w4 pds pj hg1 HZ4.out
          have CST : Hid (∀ W', Hz w O [box w4.heap.size [.int .i64 ep, .slice a n c], jr jp pd pds pj, celT 2 (.slice a n c) n (rowC enC es) g] W' → Calls Tryz.prog 103 #[.pointer (some ⟨pd, 0, none⟩), .string lgN, .agg #[.int .i64 ep, .slice a n c]] W' fun e w' => e = .returned (.int .i64 q) ∧ Hz w O [box w4.heap.size [.int .i64 ep, .slice a n c], jr jp pd ds2 pj, celT 2 (.slice a n c) n (rowC enC es) g] w') := CS
          have hZB : Hz w O [box w4.heap.size [.int .i64 ep, .slice a n c], jr jp pd pds pj, celT 2 (.slice a n c) n (rowC enC es) g] (w4.alloc (.cells #[.int .i64 ep, .slice a n c] 34)) := HZ4.out.box [.int .i64 ep, .slice a n c] 34
          have HZB : Hid (Hz w O [box w4.heap.size [.int .i64 ep, .slice a n c], jr jp pd pds pj, celT 2 (.slice a n c) n (rowC enC es) g] (w4.alloc (.cells #[.int .i64 ep, .slice a n c] 34))) := hZB
          have HEN : Hid (accQ ds j ep es = fresh pds pj ep es) := by have := HAC.out; show _ = _; simpa using this
          have HQ : Hid (stoR pds lgN (encL ⟨ep, es⟩) = (q, ds2)) := hq
          clear CS hq hZB
          go_upto_region 10 with fail
          have y0 := HZB.out.cell 0 rfl (j := 0) rfl
          have y1 := HZB.out.cell 0 rfl (j := 1) rfl
          obtain ⟨ja2, jc2, jg2, hu⟩ := jr_open HZB.out.swap
          have z0 := (jr_ge hu).1
          rw [dpt_on hg1] at z0
          clear hu
          generalize w4.alloc (.cells #[.int .i64 ep, .slice a n c] 34) = W5 at *
          generalize w4.heap.size = FB at *
          go_region_held3 (fun w' => w'.cell? ⟨jp, 0, none⟩ = some (.pointer (some ⟨pd, 0, none⟩)) ∧ w'.cell? ⟨FB, 0, none⟩ = some (.int .i64 ep) ∧ w'.cell? ⟨FB, 1, none⟩ = some (.slice a n c))
            (first | (refine ⟨?_, HZ6.out.cell 0 rfl (j := 0) rfl, HZ6.out.cell 0 rfl (j := 1) rfl⟩; obtain ⟨ja3, jc3, jg3, hu⟩ := jr_open HZ6.out.swap; have z9 := (jr_ge hu).1; rw [dpt_on hg1] at z9; exact z9) | go_keep)
            (first | (go_at_call 103; refine (CST.out _ (HZB.out.below (by first | exact bel_dr1' _ | exact Below.refl _ _))).mono ?_; rintro x w6 ⟨rfl, hz6⟩; have HZ6 : Hid (Hz w O [box FB [.int .i64 ep, .slice a n c], jr jp pd ds2 pj, celT 2 (.slice a n c) n (rowC enC es) g] w6) := hz6; clear hz6))
          by_cases h0 : q = 0
          · subst h0
            have hfin : accQ ds j ep es = ⟨0, ds2, ⟨(pj).p, ⟨ep, es⟩, (pj).gone⟩⟩ := by rw [HEN.out]; unfold fresh; rw [HQ.out]; rfl
            have HFIN : Hid (accQ ds j ep es = ⟨0, ds2, ⟨(pj).p, ⟨ep, es⟩, (pj).gone⟩⟩) := hfin
            clear hfin
            obtain ⟨ja4, jc4, jg4, hu4⟩ := jr_open HZ6.out.swap
            obtain ⟨_, _, v2, v3, _, vf⟩ := jr_ge hu4
            have HU4 : Hid (Hz w O (jrL jp pd ds2 pj ja4 jc4 jg4 ++ [box FB [.int .i64 ep, .slice a n c], celT 2 (.slice a n c) n (rowC enC es) g]) w6) := hu4
            have r0 := HZ6.out.cell 0 rfl (j := 0) rfl
            have r1 := HZ6.out.cell 0 rfl (j := 1) rfl
            have vf2 := vf 2
            have vf3 := vf 3
            clear hu4 vf
            go_wp2
            go_ret
            have h7 := (((HU4.out.setBox 0 rfl 2 (.int .i64 ep) (by simp [jrV])).setBox 0 rfl 3 (.slice a n c) (by simp [jrV])).erase 2).erase 2
            have hn2 := HNN.out
            subst hn2
            rw [HFIN.out]
            exact ⟨rfl, jr_done (j := ⟨(pj).p, ⟨ep, es⟩, (pj).gone⟩) (a := a) (c := c) (g := g) h7⟩
          · have hfin : accQ ds j ep es = ⟨12, ds2, deadN⟩ := by rw [HEN.out]; unfold fresh; rw [HQ.out]; simp only; rw [if_neg h0]
            have HFIN : Hid (accQ ds j ep es = ⟨12, ds2, deadN⟩) := hfin
            have hnb : (q == 0) = false := beq_eq_false_iff_ne.2 h0
            clear hfin
            go_wp2_with (go_at_call 145; refine (HZ6.out.act 1 rfl die_acts).mono ?_; rintro e w7 ⟨rfl, hz7⟩; have HZ7 : Hid (Hz w O [box FB [.int .i64 ep, .slice a n c], jr jp pd ds2 deadN, celT 2 (.slice a n c) n (rowC enC es) g] w7) := hz7; clear hz7)
            go_ret
            rw [HFIN.out]
            exact ⟨rfl, HZ7.out.swap.done1⟩
        · have hnb : (pe == 0) = false := beq_eq_false_iff_ne.2 hpe
          have hfin : accQ ds j ep es = ⟨pe, pds, pj⟩ := by rw [HAC.out, if_neg hpe]
          rw [hfin]
          clear hfin hon
          go_enter Tryz.func112, Tryz.ntmps112
          go_wp2_with (go_at_call 111; refine (HZF.out.act 0 rfl CP.out).mono ?_; rintro e w4 ⟨rfl, hz4⟩; have HZ4 : Hid (Hz w O [jr jp pd pds pj, celT 2 (.slice a n c) n (rowC enC es) g] w4) := hz4; clear hz4)
          go_ret
          exact ⟨rfl, HZ4.out.done1⟩
      · have hac : accQ ds j ep es = fresh ds j ep es := by unfold accQ; rw [if_neg (by omega), if_neg (by omega), if_neg (by omega)]
        have HAC : Hid (accQ ds j ep es = fresh ds j ep es) := hac
        clear hac hP hE
        go_enter Tryz.func112, Tryz.ntmps112
        go_upto_region 9 with fail
        obtain ⟨q, ds2, hq, CS⟩ := REST.out w ds j hg HZF.out
        have CST : Hid (∀ W', Hz w O [box w.heap.size [.int .i64 ep, .slice a n c], jr jp pd ds j, celT 2 (.slice a n c) n (rowC enC es) g] W' → Calls Tryz.prog 103 #[.pointer (some ⟨pd, 0, none⟩), .string lgN, .agg #[.int .i64 ep, .slice a n c]] W' fun e w' => e = .returned (.int .i64 q) ∧ Hz w O [box w.heap.size [.int .i64 ep, .slice a n c], jr jp pd ds2 j, celT 2 (.slice a n c) n (rowC enC es) g] w') := CS
        have hZB : Hz w O [box w.heap.size [.int .i64 ep, .slice a n c], jr jp pd ds j, celT 2 (.slice a n c) n (rowC enC es) g] (w.alloc (.cells #[.int .i64 ep, .slice a n c] 34)) := HZF.out.box [.int .i64 ep, .slice a n c] 34
        have HZB : Hid (Hz w O [box w.heap.size [.int .i64 ep, .slice a n c], jr jp pd ds j, celT 2 (.slice a n c) n (rowC enC es) g] (w.alloc (.cells #[.int .i64 ep, .slice a n c] 34))) := hZB
        have HEN : Hid (accQ ds j ep es = fresh ds j ep es) := HAC.out
        have HQ : Hid (stoR ds lgN (encL ⟨ep, es⟩) = (q, ds2)) := hq
        clear CS hq hZB
        go_upto_region 10 with fail
        have y0 := HZB.out.cell 0 rfl (j := 0) rfl
        have y1 := HZB.out.cell 0 rfl (j := 1) rfl
        obtain ⟨ja2, jc2, jg2, hu⟩ := jr_open HZB.out.swap
        have z0 := (jr_ge hu).1
        rw [dpt_on hg] at z0
        clear hu
        generalize w.alloc (.cells #[.int .i64 ep, .slice a n c] 34) = W5 at *
        generalize w.heap.size = FB at *
        go_region_held3 (fun w' => w'.cell? ⟨jp, 0, none⟩ = some (.pointer (some ⟨pd, 0, none⟩)) ∧ w'.cell? ⟨FB, 0, none⟩ = some (.int .i64 ep) ∧ w'.cell? ⟨FB, 1, none⟩ = some (.slice a n c))
          (first | (refine ⟨?_, HZ6.out.cell 0 rfl (j := 0) rfl, HZ6.out.cell 0 rfl (j := 1) rfl⟩; obtain ⟨ja3, jc3, jg3, hu⟩ := jr_open HZ6.out.swap; have z9 := (jr_ge hu).1; rw [dpt_on hg] at z9; exact z9) | go_keep)
          (first | (go_at_call 103; refine (CST.out _ (HZB.out.below (by first | exact bel_dr1' _ | exact Below.refl _ _))).mono ?_; rintro x w6 ⟨rfl, hz6⟩; have HZ6 : Hid (Hz w O [box FB [.int .i64 ep, .slice a n c], jr jp pd ds2 j, celT 2 (.slice a n c) n (rowC enC es) g] w6) := hz6; clear hz6))
        by_cases h0 : q = 0
        · subst h0
          have hfin : accQ ds j ep es = ⟨0, ds2, ⟨(j).p, ⟨ep, es⟩, (j).gone⟩⟩ := by rw [HEN.out]; unfold fresh; rw [HQ.out]; rfl
          have HFIN : Hid (accQ ds j ep es = ⟨0, ds2, ⟨(j).p, ⟨ep, es⟩, (j).gone⟩⟩) := hfin
          clear hfin
          obtain ⟨ja4, jc4, jg4, hu4⟩ := jr_open HZ6.out.swap
          obtain ⟨_, _, v2, v3, _, vf⟩ := jr_ge hu4
          have HU4 : Hid (Hz w O (jrL jp pd ds2 j ja4 jc4 jg4 ++ [box FB [.int .i64 ep, .slice a n c], celT 2 (.slice a n c) n (rowC enC es) g]) w6) := hu4
          have r0 := HZ6.out.cell 0 rfl (j := 0) rfl
          have r1 := HZ6.out.cell 0 rfl (j := 1) rfl
          have vf2 := vf 2
          have vf3 := vf 3
          clear hu4 vf
          go_wp2
          go_ret
          have h7 := (((HU4.out.setBox 0 rfl 2 (.int .i64 ep) (by simp [jrV])).setBox 0 rfl 3 (.slice a n c) (by simp [jrV])).erase 2).erase 2
          have hn2 := HNN.out
          subst hn2
          rw [HFIN.out]
          exact ⟨rfl, jr_done (j := ⟨(j).p, ⟨ep, es⟩, (j).gone⟩) (a := a) (c := c) (g := g) h7⟩
        · have hfin : accQ ds j ep es = ⟨12, ds2, deadN⟩ := by rw [HEN.out]; unfold fresh; rw [HQ.out]; simp only; rw [if_neg h0]
          have HFIN : Hid (accQ ds j ep es = ⟨12, ds2, deadN⟩) := hfin
          have hnb : (q == 0) = false := beq_eq_false_iff_ne.2 h0
          clear hfin
          go_wp2_with (go_at_call 145; refine (HZ6.out.act 1 rfl die_acts).mono ?_; rintro e w7 ⟨rfl, hz7⟩; have HZ7 : Hid (Hz w O [box FB [.int .i64 ep, .slice a n c], jr jp pd ds2 deadN, celT 2 (.slice a n c) n (rowC enC es) g] w7) := hz7; clear hz7)
          go_ret
          rw [HFIN.out]
          exact ⟨rfl, HZ7.out.swap.done1⟩

end Go.Proofs.YtfmhmokbbkliaaaGreat.Jrn

/- The contract of Journal.add. -/
namespace Go.Proofs.YtfmhmokbbkliaaaGreat.Jrn
open Go.RowKit Go.Proofs.YtfmhmokbbkliaaaGreat Go.Proofs.YtfmhmokbbkliaaaGreat.Wir Go.Proofs.YtfmhmokbbkliaaaGreat.Lgg Go.Proofs.YtfmhmokbbkliaaaGreat.Sep
open Go.Proofs.YtfmhmokbbkliaaaGreat.Smm (bytes_ne)
set_option linter.unusedVariables false

theorem jr_snoc {O : Nat → Prop} {w w1 : World} {jp pd : Nat} {ds : DS} {j : Nd} {x : En} {a : Option Addr} {c : Nat} {g : Option Nat} {n : Nat} (hn : j.l.es.length = n) {M : List Th}
    (h : Hz w O ([box jp [dpt pd j, .int .i64 j.p, .int .i64 j.l.ep, .slice a (n + 1) c, .bool j.gone], dsk pd ds, celT 2 (.slice a (n + 1) c) (n + 1) (rowC enC j.l.es ++ [.int .i64 x.tx, .string x.d]) g] ++ M) w1) :
    Hz w O (jrL jp pd ds ⟨j.p, ⟨j.l.ep, j.l.es ++ [x]⟩, j.gone⟩ a c g ++ M) w1 := by
  subst hn
  have e1 : (j.l.es ++ [x]).length = j.l.es.length + 1 := by simp
  have e2 : rowC enC (j.l.es ++ [x]) = rowC enC j.l.es ++ [.int .i64 x.tx, .string x.d] := by rw [rowC_app, rowC_one]; rfl
  unfold jrL jrV
  simp only [e1, e2]
  exact h

set_option maxRecDepth 100000 in
set_option maxHeartbeats 2000000 in
theorem addJ_acts {jp pd : Nat} {ds : DS} {j : Nd} {w : World} (hg : j.gone = false) (ep : Int) (x : En) (hx : addR1 x = true) (hj : j.l.es.length ≤ 300) :
    Acts Tryz.prog 113 #[.pointer (some ⟨jp, 0, none⟩), .int .i64 ep, .agg #[.int .i64 x.tx, .string x.d]] (jr jp pd ds j) w (fun e _ => e = .returned (.int .i64 (addQ ds j ep x).e)) (jr jp pd (addQ ds j ep x).ds (addQ ds j ep x).j) := by
  intro O hS
  obtain ⟨tx, d⟩ := x
  obtain ⟨x1, x2, x3⟩ := (addR1_iff _).1 hx
  simp only at x1 x2 x3
  have hz0 : Hz w O [jr jp pd ds j] w := Hz.start ⟨O, fun _ => False, hS, fun _ e => e.elim, fun _ _ e => e, fun _ e => e, fun _ e => e.elim, (jr jp pd ds j).lt hS⟩
  have hz1 := hz0.box [.int .i64 tx, .string d] 24
  have HZF : Hid (Hz w O [box w.heap.size [.int .i64 tx, .string d], jr jp pd ds j] (w.alloc (.cells #[.int .i64 tx, .string d] 24))) := hz1
  clear hz0 hS
  have q0 := hz1.cell 0 rfl (j := 0) rfl
  have q1 := hz1.cell 0 rfl (j := 1) rfl
  clear hz1
  obtain ⟨n, hn⟩ : ∃ n, j.l.es.length = n := ⟨_, rfl⟩
  have hn3 : n ≤ 300 := by omega
  obtain ⟨P, hP⟩ : ∃ P, j.p = P := ⟨_, rfl⟩
  obtain ⟨E, hE⟩ : ∃ E, j.l.ep = E := ⟨_, rfl⟩
  have q0' : (w.alloc (.cells #[.int .i64 tx, .string d] 24)).cell? ⟨w.heap.size, 0, none⟩ = some (.int .i64 tx) := q0
  have q1' : (w.alloc (.cells #[.int .i64 tx, .string d] 24)).cell? ⟨w.heap.size, 1, none⟩ = some (.string d) := q1
  clear q0 q1
  obtain ⟨ja, jc, jg, hu⟩ := jr_open HZF.out.swap
  obtain ⟨y0, y1, y2, y3, _, _⟩ := jr_ge hu
  rw [dpt_on hg] at y0
  rw [hP] at y1
  rw [hE] at y2
  rw [hn] at y3
  have HU : Hid (Hz w O (jrL jp pd ds j ja jc jg ++ [box w.heap.size [.int .i64 tx, .string d]]) (w.alloc (.cells #[.int .i64 tx, .string d] 24))) := hu
  clear hu
  go_enter Tryz.func113, Tryz.ntmps113
  go_upto_region 1 with fail
  generalize w.alloc (.cells #[.int .i64 tx, .string d] 24) = W1 at *
  generalize w.heap.size = XB at *
  by_cases h1 : ep = P
  · by_cases h2 : ep = E
    · have hne : ¬ (ep ≠ j.p ∨ ep ≠ j.l.ep) := fun e => e.elim (fun e => e (by omega)) (fun e => e (by omega))
      by_cases h3 : (n : Int) + 1 < tx
      · have HFIN : Hid (addQ ds j ep ⟨tx, d⟩ = ⟨11, ds, j⟩) := by
          show _ = _
          unfold addQ; rw [if_neg hne, if_pos (by rw [hn]; exact h3)]
        clear hne hP hE hn
        subst h1 h2
        go_wp2
        go_ret
        rw [HFIN.out]
        exact ⟨rfl, HZF.out.swap.done1⟩
      · by_cases h4 : tx ≤ (n : Int)
        · obtain ⟨k, rfl⟩ : ∃ k : Nat, tx = (k : Int) + 1 := ⟨(tx - 1).toNat, by omega⟩
          have hk : k < j.l.es.length := by omega
          obtain ⟨O3, hC, _⟩ := HU.out.get 2 rfl
          obtain ⟨b, hb, _, hcel⟩ := hC.elem wideN hk rfl
          subst hb
          have hget : j.l.es[((k : Int) + 1).toNat - 1]? = some j.l.es[k] := by
            rw [show ((k : Int) + 1).toNat - 1 = k by omega]
            exact List.getElem?_eq_getElem hk
          have hq : addQ ds j ep ⟨(k : Int) + 1, d⟩ = ⟨if j.l.es[k] = ⟨(k : Int) + 1, d⟩ then 0 else 11, ds, j⟩ := by
            unfold addQ; rw [if_neg hne, if_neg (by rw [hn]; exact h3), if_pos (by rw [hn]; exact h4)]
            simp only [hget, Option.some.injEq]
          obtain ⟨y, hy⟩ : ∃ y, j.l.es[k] = y := ⟨_, rfl⟩
          rw [hy] at hq hcel
          obtain ⟨ty, dy⟩ := y
          have z0 : W1.cell? ⟨b, k * 2, none⟩ = some (.int .i64 ty) := hcel 0 _ rfl
          have z1 : W1.cell? ⟨b, k * 2 + 1, none⟩ = some (.string dy) := hcel 1 _ rfl
          have hkn : (k : Int) < (n : Int) := by omega
          clear hC hcel hget hy hk
          by_cases e1 : ty = (k : Int) + 1
          · by_cases e2 : dy = d
            · have HFIN : Hid (addQ ds j ep ⟨(k : Int) + 1, d⟩ = ⟨0, ds, j⟩) := by
                show _ = _
                rw [hq, if_pos (by rw [e1, e2])]
              clear hne hP hE hn hq
              subst h1 h2 e2 e1
              go_upto_region 7 with fail
              go_quiet (fail)
              go_wp2
              go_ret
              rw [HFIN.out]
              exact ⟨rfl, (HZF.out.swap.below (by first | exact Below.refl _ _ | exact bel_dr1' _ | exact bel_dr _ _)).done1⟩
            · have HFIN : Hid (addQ ds j ep ⟨(k : Int) + 1, d⟩ = ⟨11, ds, j⟩) := by
                show _ = _
                rw [hq, if_neg (fun e => e2 (by injection e))]
              have hbe := bytes_ne e2
              clear hne hP hE hn hq e2
              subst h1 h2 e1
              go_upto_region 7 with fail
              go_quiet (fail)
              go_wp2
              go_ret
              rw [HFIN.out]
              exact ⟨rfl, (HZF.out.swap.below (by first | exact Below.refl _ _ | exact bel_dr1' _ | exact bel_dr _ _)).done1⟩
          · have HFIN : Hid (addQ ds j ep ⟨(k : Int) + 1, d⟩ = ⟨11, ds, j⟩) := by
              show _ = _
              rw [hq, if_neg (fun e => e1 (by injection e))]
            clear hne hP hE hn hq
            subst h1 h2
            go_upto_region 7 with fail
            go_quiet (fail)
            go_wp2
            go_ret
            rw [HFIN.out]
            exact ⟨rfl, (HZF.out.swap.below (by first | exact Below.refl _ _ | exact bel_dr1' _ | exact bel_dr _ _)).done1⟩
        · obtain ⟨⟨q, ds2⟩, hq⟩ : ∃ r, addR ds lgN (encE ⟨tx, d⟩) = r := ⟨_, rfl⟩
          have hfin : addQ ds j ep ⟨tx, d⟩ = if q = 0 then ⟨0, ds2, ⟨j.p, ⟨j.l.ep, j.l.es ++ [⟨tx, d⟩]⟩, j.gone⟩⟩ else ⟨12, ds2, deadN⟩ := by
            unfold addQ; rw [if_neg hne, if_neg (by rw [hn]; exact h3), if_neg (by rw [hn]; exact h4), hq]
          have CA : Hid (∀ W', Hz w O (jrL jp pd ds j ja jc jg ++ [box XB [.int .i64 tx, .string d]]) W' → Calls Tryz.prog 147 #[.pointer (some ⟨pd, 0, none⟩), .string lgN, .agg #[.int .i64 tx, .string d]] W' fun e w' => e = .returned (.int .i64 q) ∧ Hz w O (jrL jp pd ds2 j ja jc jg ++ [box XB [.int .i64 tx, .string d]]) w') := fun W' h => h.act 1 rfl (add_acts ⟨tx, d⟩ x1 x2 x3 lgN lg_ok q hq)
          have HFIN : Hid (addQ ds j ep ⟨tx, d⟩ = if q = 0 then ⟨0, ds2, ⟨j.p, ⟨j.l.ep, j.l.es ++ [⟨tx, d⟩]⟩, j.gone⟩⟩ else ⟨12, ds2, deadN⟩) := hfin
          have HN : Hid (j.l.es.length = n) := hn
          clear hne hP hE hn hq hfin
          subst h1 h2
          go_upto_region 10 with fail
          go_region_held3 (fun w' => w'.cell? ⟨jp, 0, none⟩ = some (.pointer (some ⟨pd, 0, none⟩)) ∧ w'.cell? ⟨XB, 0, none⟩ = some (.int .i64 tx) ∧ w'.cell? ⟨XB, 1, none⟩ = some (.string d))
            (first | (refine ⟨?_, HZ6.out.cell 3 rfl (j := 0) rfl, HZ6.out.cell 3 rfl (j := 1) rfl⟩; have z9 := (jr_ge HZ6.out).1; rw [dpt_on hg] at z9; exact z9) | go_keep)
            (first | (go_at_call 147; refine (CA.out _ (HU.out.below (by first | exact bel_dr1' _ | exact Below.refl _ _))).mono ?_; rintro x w6 ⟨rfl, hz6⟩; have HZ6 : Hid (Hz w O (jrL jp pd ds2 j ja jc jg ++ [box XB [.int .i64 tx, .string d]]) w6) := hz6; clear hz6))
          by_cases h0 : q = 0
          · subst h0
            have HFIN2 : Hid (addQ ds j ep ⟨tx, d⟩ = ⟨0, ds2, ⟨j.p, ⟨j.l.ep, j.l.es ++ [⟨tx, d⟩]⟩, j.gone⟩⟩) := by
              show _ = _
              have := HFIN.out
              simpa using this
            obtain ⟨ti, hi1, hi2, hi3, hi4⟩ := info_e
            have H9 : Hid (Hz w O (jrL jp pd ds2 j ja jc jg ++ [box XB [.int .i64 tx, .string d]]) (w6.alloc (.cells #[.int .i64 tx, .string d] 24))) := HZ6.out.below (bel_al _ _)
            have SW : Hid (Src Tryz.prog 2 22 (.slice (some ⟨w6.heap.size, 0, none⟩) 1 1) 1 [.int .i64 tx, .string d] (w6.alloc (.cells #[.int .i64 tx, .string d] 24))) := src_entry w6 tx d
            have r0 := HZ6.out.cell 3 rfl (j := 0) rfl
            have r1 := HZ6.out.cell 3 rfl (j := 1) rfl
            obtain ⟨O3, k1, k2, k3⟩ := H9.out.out 2 rfl
            have hC0 := k1.1
            rw [HN.out] at hC0
            have HC : Hid (Cel O3 (w6.alloc (.cells #[.int .i64 tx, .string d] 24)) 2 (.slice ja n jc) n (rowC enC j.l.es) jg) := hC0
            have K3 : Hid (∀ a7 c7 w7 g7, Cel (Grow O3 (w6.alloc (.cells #[.int .i64 tx, .string d] 24)) w7) w7 2 (.slice a7 (n + 1) c7) (n + 1) (rowC enC j.l.es ++ [.int .i64 tx, .string d]) g7 → Stay (fun q => jg = some q) (w6.alloc (.cells #[.int .i64 tx, .string d] 24)) w7 → Hz w O [box jp (jrV pd j ja jc), dsk pd ds2, celT 2 (.slice a7 (n + 1) c7) (n + 1) (rowC enC j.l.es ++ [.int .i64 tx, .string d]) g7, box XB [.int .i64 tx, .string d]] w7) := fun a7 c7 w7 g7 hC7 hS7 =>
              k3 (celT 2 (Value.slice a7 (n + 1) c7) (n + 1) (rowC enC j.l.es ++ [Value.int IntKind.i64 tx, Value.string d]) g7) w7 ⟨hC7, grow_lt k2 hS7.size⟩ (hS7.mono (fun q hq => by have h9 := HC.out; rw [hq] at h9; exact h9.lt.2))
            clear k1 k2 k3 hC0
            go_wp2_with (at_builtin; refine wpList_append_cel _ rfl _ _ 22 22 rfl 24 ti _ 2 24 Tryz.underlying22 hi1 hi2 hi3 hi4 rfl (O := O3) (.slice ja n jc) n _ jg rfl HC.out _ 1 [.int .i64 tx, .string d] rfl SW.out (by unfold maxLen; omega) (by omega) ?_; intro a7 c7 w7 g7 hC7 hS7 hg7; have H7 : Hid (Hz w O [box jp (jrV pd j ja jc), dsk pd ds2, celT 2 (.slice a7 (n + 1) c7) (n + 1) (rowC enC j.l.es ++ [.int .i64 tx, .string d]) g7, box XB [.int .i64 tx, .string d]] w7) := K3.out a7 c7 w7 g7 hC7 hS7; clear hC7 hS7 hg7; have v3 := H7.out.cell 0 rfl (j := 3) rfl; have vf := H7.out.fr 0 rfl 3)
            go_ret
            rw [HFIN2.out]
            exact ⟨rfl, (jr_fold (jr_snoc (x := ⟨tx, d⟩) HN.out (M := [box XB [.int .i64 tx, .string d]]) (H7.out.setBox 0 rfl 3 (.slice a7 (n + 1) c7) (by simp [jrV])))).done1⟩
          · have HFIN2 : Hid (addQ ds j ep ⟨tx, d⟩ = ⟨12, ds2, deadN⟩) := by
              show _ = _
              have := HFIN.out
              rwa [if_neg h0] at this
            have hnb : (q == 0) = false := beq_eq_false_iff_ne.2 h0
            go_wp2_with (go_at_call 145; refine ((jr_fold HZ6.out).act 0 rfl die_acts).mono ?_; rintro e w7 ⟨rfl, hz7⟩; have HZ7 : Hid (Hz w O [jr jp pd ds2 deadN, box XB [.int .i64 tx, .string d]] w7) := hz7; clear hz7)
            go_ret
            rw [HFIN2.out]
            exact ⟨rfl, HZ7.out.done1⟩
    · have HFIN : Hid (addQ ds j ep ⟨tx, d⟩ = ⟨10, ds, j⟩) := by
        show _ = _
        unfold addQ; rw [if_pos (.inr (by rw [hE]; exact h2))]
      clear hP hE hn
      subst h1
      go_wp2
      go_ret
      rw [HFIN.out]
      exact ⟨rfl, HZF.out.swap.done1⟩
  · have HFIN : Hid (addQ ds j ep ⟨tx, d⟩ = ⟨10, ds, j⟩) := by
      show _ = _
      unfold addQ; rw [if_pos (.inl (by rw [hP]; exact h1))]
    clear hP hE hn
    go_wp2
    go_ret
    rw [HFIN.out]
    exact ⟨rfl, HZF.out.swap.done1⟩

end Go.Proofs.YtfmhmokbbkliaaaGreat.Jrn

/- The contract of Journal.do. -/
namespace Go.Proofs.YtfmhmokbbkliaaaGreat.Jrn
open Go.RowKit Go.Proofs.YtfmhmokbbkliaaaGreat Go.Proofs.YtfmhmokbbkliaaaGreat.Wir Go.Proofs.YtfmhmokbbkliaaaGreat.Lgg Go.Proofs.YtfmhmokbbkliaaaGreat.Sep
set_option linter.unusedVariables false

set_option maxRecDepth 100000 in
set_option maxHeartbeats 2000000 in
theorem do_acts {jp pd : Nat} {ds : DS} {j : Nd} {w : World} (hg : j.gone = false) (hj : j.l.es.length ≤ 300) (r : Rq) (hr : RqOk r) (a : Option Addr) (n c : Nat) (g : Option Nat) (hn : (ents r).length = n) :
    Acts Tryz.prog 68 #[.pointer (some ⟨jp, 0, none⟩), .agg #[.string (kindT r), .int .i64 (epQ r), .slice a n c]] (jrR jp pd ds j a n c (ents r) g) w (fun e _ => e = .returned (.int .i64 (doQ ds j r).e)) (jr jp pd (doQ ds j r).ds (doQ ds j r).j) := by
  intro O hS
  have hz : Hz w O [jr jp pd ds j, celT 2 (.slice a n c) n (rowC enC (ents r)) g] w := Hz.start hS
  have hzb := hz.box [.string (kindT r), .int .i64 (epQ r), .slice a n c] 121
  have q0 : (w.alloc (.cells #[.string (kindT r), .int .i64 (epQ r), .slice a n c] 121)).cell? ⟨w.heap.size, 0, none⟩ = some (.string (kindT r)) := hzb.cell 0 rfl (j := 0) rfl
  have q1 : (w.alloc (.cells #[.string (kindT r), .int .i64 (epQ r), .slice a n c] 121)).cell? ⟨w.heap.size, 1, none⟩ = some (.int .i64 (epQ r)) := hzb.cell 0 rfl (j := 1) rfl
  have q2 : (w.alloc (.cells #[.string (kindT r), .int .i64 (epQ r), .slice a n c] 121)).cell? ⟨w.heap.size, 2, none⟩ = some (.slice a n c) := hzb.cell 0 rfl (j := 2) rfl
  have HZB : Hid (Hz w O [box w.heap.size [.string (kindT r), .int .i64 (epQ r), .slice a n c], jr jp pd ds j, celT 2 (.slice a n c) n (rowC enC (ents r)) g] (w.alloc (.cells #[.string (kindT r), .int .i64 (epQ r), .slice a n c] 121))) := hzb
  clear hz hzb hS
  cases r with
  | prom ep =>
    simp only [kindT, epQ, ents] at *
    unfold pT at *
    have CP : Hid (∀ W, Acts Tryz.prog 111 #[.pointer (some ⟨jp, 0, none⟩), .int .i64 ep] (jr jp pd ds j) W (fun e _ => e = .returned (.int .i64 (promQ ds j ep).e)) (jr jp pd (promQ ds j ep).ds (promQ ds j ep).j)) := fun W => promiseJ_acts hg ep hr
    clear hr hn
    show Calls _ _ _ _ fun e w' => e = .returned (.int .i64 (promQ ds j ep).e) ∧ (jr jp pd (promQ ds j ep).ds (promQ ds j ep).j).A (Grow O w w') w' ∧ Stay O w w'
    generalize (promQ ds j ep).e = q at *
    generalize (promQ ds j ep).ds = ds2 at *
    generalize (promQ ds j ep).j = j2 at *
    go_enter Tryz.func68, Tryz.ntmps68
    go_wp2_with (go_at_call 111; refine (HZB.out.act 1 rfl (CP.out _)).mono ?_; rintro e w4 ⟨rfl, hz4⟩; have HZ4 : Hid (Hz w O [box w.heap.size [.string ⟨#[112]⟩, .int .i64 ep, .slice a n c], jr jp pd ds2 j2, celT 2 (.slice a n c) n (rowC enC []) g] w4) := hz4; clear hz4)
    go_ret
    exact ⟨rfl, HZ4.out.swap.done1⟩
  | acc ep es =>
    simp only [kindT, epQ, ents] at *
    unfold aT at *
    have CP : Hid (∀ W, Acts Tryz.prog 112 #[.pointer (some ⟨jp, 0, none⟩), .int .i64 ep, .slice a n c] (jrR jp pd ds j a n c es g) W (fun e _ => e = .returned (.int .i64 (accQ ds j ep es).e)) (jr jp pd (accQ ds j ep es).ds (accQ ds j ep es).j)) := fun W => accept_acts hg ep hr.1 a n c es g hn hr.2
    clear hr hn
    show Calls _ _ _ _ fun e w' => e = .returned (.int .i64 (accQ ds j ep es).e) ∧ (jr jp pd (accQ ds j ep es).ds (accQ ds j ep es).j).A (Grow O w w') w' ∧ Stay O w w'
    generalize (accQ ds j ep es).e = q at *
    generalize (accQ ds j ep es).ds = ds2 at *
    generalize (accQ ds j ep es).j = j2 at *
    go_enter Tryz.func68, Tryz.ntmps68
    go_wp2_with (go_at_call 112; refine ((Hz.fold (L := [jr jp pd ds j, celT 2 (.slice a n c) n (rowC enC es) g]) (M := []) HZB.out.less).act 0 rfl (CP.out _)).mono ?_; rintro e w4 ⟨rfl, hz4⟩; have HZ4 : Hid (Hz w O [jr jp pd ds2 j2] w4) := hz4; clear hz4)
    go_ret
    exact ⟨rfl, HZ4.out.done1⟩
  | add ep x =>
    obtain ⟨tx, d⟩ := x
    simp only [kindT, epQ, ents] at *
    unfold wT at *
    have CP : Hid (∀ W, Acts Tryz.prog 113 #[.pointer (some ⟨jp, 0, none⟩), .int .i64 ep, .agg #[.int .i64 tx, .string d]] (jr jp pd ds j) W (fun e _ => e = .returned (.int .i64 (addQ ds j ep ⟨tx, d⟩).e)) (jr jp pd (addQ ds j ep ⟨tx, d⟩).ds (addQ ds j ep ⟨tx, d⟩).j)) := fun W => addJ_acts hg ep ⟨tx, d⟩ hr.2 hj
    obtain rfl : n = 1 := hn.symm
    clear hr hn
    show Calls _ _ _ _ fun e w' => e = .returned (.int .i64 (addQ ds j ep ⟨tx, d⟩).e) ∧ (jr jp pd (addQ ds j ep ⟨tx, d⟩).ds (addQ ds j ep ⟨tx, d⟩).j).A (Grow O w w') w' ∧ Stay O w w'
    generalize (addQ ds j ep ⟨tx, d⟩).e = q at *
    generalize (addQ ds j ep ⟨tx, d⟩).ds = ds2 at *
    generalize (addQ ds j ep ⟨tx, d⟩).j = j2 at *
    have ROW : Hid (∀ W ds9 j9, Hz w O [box w.heap.size [.string ⟨#[119]⟩, .int .i64 ep, .slice a 1 c], jr jp pd ds9 j9, celT 2 (.slice a 1 c) 1 (rowC enC [⟨tx, d⟩]) g] W → ∃ b, a = some ⟨b, 0, none⟩ ∧ W.cell? ⟨b, 0, none⟩ = some (.int .i64 tx) ∧ W.cell? ⟨b, 1, none⟩ = some (.string d)) := fun W ds9 j9 h => by
      obtain ⟨O3, k1⟩ := h.get 2 rfl
      obtain ⟨b, hb, _, hcel⟩ := k1.1.elem wideN (i := 0) (by simp) rfl
      exact ⟨b, hb, hcel 0 _ rfl, hcel 1 _ rfl⟩
    obtain ⟨b, rfl, r0, r1⟩ := ROW.out _ _ _ HZB.out
    go_enter Tryz.func68, Tryz.ntmps68
    go_upto_region 2 with fail
    generalize w.alloc (.cells #[.string ⟨#[119]⟩, .int .i64 ep, .slice (some ⟨b, 0, none⟩) 1 c] 121) = W1 at *
    generalize w.heap.size = RB at *
    go_region_held3 (fun w' => w'.cell? ⟨RB, 1, none⟩ = some (.int .i64 ep) ∧ w'.cell? ⟨RB, 2, none⟩ = some (.slice (some ⟨b, 0, none⟩) 1 c) ∧ w'.cell? ⟨b, 0, none⟩ = some (.int .i64 tx) ∧ w'.cell? ⟨b, 1, none⟩ = some (.string d))
      (first | (refine ⟨HZ6.out.cell 0 rfl (j := 1) rfl, HZ6.out.cell 0 rfl (j := 2) rfl, ?_, ?_⟩; (obtain ⟨b9, hb9, s0, s1⟩ := ROW.out _ _ _ HZ6.out; cases hb9; exact s0); (obtain ⟨b9, hb9, s0, s1⟩ := ROW.out _ _ _ HZ6.out; cases hb9; exact s1)) | go_keep)
      (first | (go_at_call 113; refine ((HZB.out.below (by first | exact bel_dr1' _ | exact Below.refl _ _)).act 1 rfl (CP.out _)).mono ?_; rintro x w6 ⟨rfl, hz6⟩; have HZ6 : Hid (Hz w O [box RB [.string ⟨#[119]⟩, .int .i64 ep, .slice (some ⟨b, 0, none⟩) 1 c], jr jp pd ds2 j2, celT 2 (.slice (some ⟨b, 0, none⟩) 1 c) 1 (rowC enC [⟨tx, d⟩]) g] w6) := hz6; clear hz6))
    go_wp2
    go_ret
    exact ⟨rfl, HZ6.out.swap.done1⟩

end Go.Proofs.YtfmhmokbbkliaaaGreat.Jrn

/- The contract of Journal.Handle. -/
namespace Go.Proofs.YtfmhmokbbkliaaaGreat.Jrn
open Go.RowKit Go.Proofs.YtfmhmokbbkliaaaGreat Go.Proofs.YtfmhmokbbkliaaaGreat.Wir Go.Proofs.YtfmhmokbbkliaaaGreat.Lgg Go.Proofs.YtfmhmokbbkliaaaGreat.Sep
set_option linter.unusedVariables false

theorem bel_cel {base : Nat} {w : World} {k : Nat} {sl : Value} {n : Nat} {cs : List Value} {g : Option Nat} (h : Cel (fun q => base ≤ q) w k sl n cs g) : (celT k sl n cs g).A (fun q => base ≤ q ∧ q < w.heap.size) w := ⟨cel_lt h, fun _ hq => hq.2⟩
theorem doQ_e (ds : DS) (j : Nd) (r : Rq) : 0 ≤ (doQ ds j r).e ∧ (doQ ds j r).e ≤ 100 := by
  have hp : ∀ ep, 0 ≤ (promQ ds j ep).e ∧ (promQ ds j ep).e ≤ 100 := fun ep => by
    unfold promQ; split; (· simp only; omega); split <;> simp only <;> omega
  have hf : ∀ ds j ep es, 0 ≤ (fresh ds j ep es).e ∧ (fresh ds j ep es).e ≤ 100 := fun ds j ep es => by
    unfold fresh; split <;> simp only <;> omega
  cases r with
  | prom ep => exact hp ep
  | acc ep es =>
    show 0 ≤ (accQ ds j ep es).e ∧ (accQ ds j ep es).e ≤ 100
    unfold accQ
    split
    · simp only; omega
    · split
      · simp only; split <;> omega
      · split
        · split
          · exact hf _ _ _ _
          · exact hp ep
        · exact hf _ _ _ _
  | add ep x =>
    show 0 ≤ (addQ ds j ep x).e ∧ (addQ ds j ep x).e ≤ 100
    unfold addQ
    split
    · simp only; omega
    · split
      · simp only; omega
      · split
        · simp only; split <;> omega
        · split <;> simp only <;> omega
/-- Only a promise has pieces behind it. -/
def psQ (ds : DS) (j : Nd) (r : Rq) : List ByteArray := if (doQ ds j r).e = 0 ∧ isP r = true then piecesL (encL (doQ ds j r).j.l) else []

set_option maxRecDepth 100000 in
set_option maxHeartbeats 2000000 in
theorem handle_acts {jp pd : Nat} {ds : DS} {j : Nd} {w : World} (hj : NdOk j) (s : ByteArray) (hs : s.size ≤ maxLen) :
    Acts Tryz.prog 28 #[.pointer (some ⟨jp, 0, none⟩), .string s] (jr jp pd ds j) w (fun e _ => e = .returned (.string (handQ ds j s).t)) (jr jp pd (handQ ds j s).ds (handQ ds j s).j) := by
  intro O hS
  have hz0 : Hz w O [jr jp pd ds j] w := Hz.start ⟨O, fun _ => False, hS, fun _ e => e.elim, fun _ _ e => e, fun _ e => e, fun _ e => e.elim, (jr jp pd ds j).lt hS⟩
  have HZ : Hid (Hz w O [jr jp pd ds j] w) := hz0
  obtain ⟨ja, jc, jg, hu⟩ := jr_open hz0
  have x4 := (jr_ge hu).2.2.2.2.1
  clear hz0 hS hu
  have CA : Hid (∀ (W : World) (er : Int), 0 ≤ er ∧ er ≤ 100 → Calls Tryz.prog 65 #[.int .i64 er, .slice none 0 0] W fun e w' => e = .returned (.string (ansT er [])) ∧ Below W.heap.size W w') := fun W er he => answered_val (Lie.nil strC (fun _ => True) W none) (by simp) er he 0 0 rfl (by omega) _ rfl
  cases hg : j.gone with
  | true =>
    rw [hg] at x4
    have HFIN : Hid (handQ ds j s = ⟨ansT 12 [], ds, j⟩) := by show _ = _; unfold handQ; rw [if_pos hg]
    clear hg
    go_enter Tryz.func28, Tryz.ntmps28
    go_wp2_with (go_at_call 65; refine (CA.out _ 12 (by omega)).mono ?_; rintro e w1 ⟨rfl, b1⟩; have B1 : Hid (Below w.heap.size w w1) := b1; clear b1)
    go_ret
    rw [HFIN.out]
    exact ⟨rfl, (HZ.out.below B1.out).done1⟩
  | false =>
    rw [hg] at x4
    have CT : Hid (Calls Tryz.prog 66 #[.string s, .func (.func 67) #[] #[]] w fun e w' => TkO w.heap.size (readQ s) e w' ∧ Below w.heap.size w w') := taken_any s hs w
    cases hr : readQ s with
    | none =>
      rw [hr] at CT
      have HFIN : Hid (handQ ds j s = ⟨ansT 2 [], ds, j⟩) := by show _ = _; unfold handQ; rw [if_neg (by rw [hg]; simp), hr]
      clear hg hr
      go_enter Tryz.func28, Tryz.ntmps28
      go_wp2_with (first
        | (go_at_call 66; refine CT.out.mono ?_; rintro e w1 ⟨hx, b1⟩; replace hx : e = .returned (.tuple #[.agg #[.string ⟨#[]⟩, .int .i64 0, .slice none 0 0], .int .i64 2]) := hx; subst hx; have B1 : Hid (Below w.heap.size w w1) := b1; clear b1)
        | (go_at_call 65; refine (CA.out _ 2 (by omega)).mono ?_; rintro e w2 ⟨rfl, b2⟩; have B2 : Hid (Below w.heap.size w w2) := bel_tr B1.out (bel_tr (bel_al _ _) b2); clear b2))
      go_ret
      rw [HFIN.out]
      exact ⟨rfl, (HZ.out.below B2.out).done1⟩
    | some r =>
      rw [hr] at CT
      have hok := readQ_ok hr
      have HFIN : Hid (handQ ds j s = ⟨ansT (doQ ds j r).e (psQ ds j r), (doQ ds j r).ds, (doQ ds j r).j⟩) := by show _ = _; unfold handQ; rw [if_neg (by rw [hg]; simp), hr]; rfl
      have hde := doQ_e ds j r
      have hjo := doQ_ok (ds := ds) hj hg hok
      have CD : Hid (∀ W a c g, Acts Tryz.prog 68 #[.pointer (some ⟨jp, 0, none⟩), .agg #[.string (kindT r), .int .i64 (epQ r), .slice a (ents r).length c]] (jrR jp pd ds j a (ents r).length c (ents r) g) W (fun e _ => e = .returned (.int .i64 (doQ ds j r).e)) (jr jp pd (doQ ds j r).ds (doQ ds j r).j)) := fun W a c g => do_acts hg hj.log.2.1 r hok a _ c g rfl
      have HPS : Hid (psQ ds j r = if (doQ ds j r).e = 0 ∧ isP r = true then piecesL (encL (doQ ds j r).j.l) else []) := rfl
      have HK : Hid (isP r = true ∧ kindT r = ⟨#[112]⟩ ∨ isP r = false ∧ (kindT r = ⟨#[97]⟩ ∨ kindT r = ⟨#[119]⟩)) := by
        cases r
        · exact .inl ⟨rfl, rfl⟩
        · exact .inr ⟨rfl, .inl rfl⟩
        · exact .inr ⟨rfl, .inr rfl⟩
      clear hg hr hok hj
      generalize psQ ds j r = ps at *
      generalize isP r = ip at *
      obtain ⟨q, hq⟩ : ∃ q, (doQ ds j r).e = q := ⟨_, rfl⟩
      obtain ⟨ds2, hds2⟩ : ∃ q, (doQ ds j r).ds = q := ⟨_, rfl⟩
      obtain ⟨j2, hj2⟩ : ∃ q, (doQ ds j r).j = q := ⟨_, rfl⟩
      rw [hq, hds2, hj2] at CD HFIN
      rw [hq, hj2] at HPS
      rw [hq] at hde
      rw [hj2] at hjo
      clear hq hds2 hj2
      replace CT : Hid (Calls Tryz.prog 66 #[.string s, .func (.func 67) #[] #[]] w fun e w' => TkQ w.heap.size (kindT r) (epQ r) (ents r) e w' ∧ Below w.heap.size w w') := CT
      generalize kindT r = kk at *
      generalize epQ r = eq at *
      generalize ents r = es at *
      obtain ⟨n, hn⟩ : ∃ n, es.length = n := ⟨_, rfl⟩
      rw [hn] at CD
      have HN : Hid (es.length = n) := hn
      clear hn
      have HJO : Hid (NdOk j2) := hjo
      clear hjo
      go_enter Tryz.func28, Tryz.ntmps28
      go_upto_region 6 with (go_at_call 66; refine CT.out.mono ?_; rintro e w1 ⟨⟨a, c, g, hx, hC⟩, b1⟩; rw [HN.out] at hx hC; subst hx; have HZ1 : Hid (Hz w O [jr jp pd ds j, celT 2 (.slice a n c) n (rowC enC es) g] w1) := (HZ.out.put b1 (bel_cel hC)).swap; clear hC b1)
      have HZ2 : Hid (Hz w O [jr jp pd ds j, celT 2 (.slice a n c) n (rowC enC es) g, box w1.heap.size [.string kk, .int .i64 eq, .slice a n c]] (w1.alloc (.cells #[.string kk, .int .i64 eq, .slice a n c] 121))) := (HZ1.out.box [.string kk, .int .i64 eq, .slice a n c] 121).swap.swap2
      have y0 := HZ2.out.cell 2 rfl (j := 0) rfl
      have y1 := HZ2.out.cell 2 rfl (j := 1) rfl
      have y2 := HZ2.out.cell 2 rfl (j := 2) rfl
      generalize w1.alloc (.cells #[.string kk, .int .i64 eq, .slice a n c] 121) = W2 at *
      generalize w1.heap.size = AB at *
      clear HZ1 CT
      have CD2 : Hid (Calls Tryz.prog 68 #[.pointer (some ⟨jp, 0, none⟩), .agg #[.string kk, .int .i64 eq, .slice a n c]] W2 fun e w' => e = .returned (.int .i64 q) ∧ Hz w O [jr jp pd ds2 j2, box AB [.string kk, .int .i64 eq, .slice a n c]] w') := (Hz.fold (L := [jr jp pd ds j, celT 2 (.slice a n c) n (rowC enC es) g]) (M := [box AB [.string kk, .int .i64 eq, .slice a n c]]) HZ2.out).act 0 rfl (CD.out _ a c g)
      clear CD HZ2
      by_cases h0 : q = 0
      · subst h0
        rcases HK.out with ⟨hip, rfl⟩ | ⟨hip, hkk⟩
        · have hps : ps = piecesL (encL j2.l) := by rw [HPS.out, if_pos ⟨rfl, hip⟩]
          have HP : Hid (piecesL (encL j2.l) = ps) := hps.symm
          clear hps
          go_upto_region 8 with (go_at_call 68; refine CD2.out.mono ?_; rintro e w3 ⟨rfl, hz3⟩; have HZ3 : Hid (Hz w O [jr jp pd ds2 j2, box AB [.string ⟨#[112]⟩, .int .i64 eq, .slice a n c]] w3) := hz3; clear hz3; clear y0; have y0 := HZ3.out.cell 1 rfl (j := 0) rfl)
          obtain ⟨ja2, jc2, jg2, hu⟩ := jr_open HZ3.out
          obtain ⟨_, _, z2, z3, _, _⟩ := jr_ge hu
          obtain ⟨O3, k3⟩ := hu.get 2 rfl
          have CP : Hid (∀ W, Below w3.heap.size w3 W → Calls Tryz.prog 69 #[.agg #[.int .i64 j2.l.ep, .slice ja2 j2.l.es.length jc2]] W fun e w' => StrR W.heap.size ps e w' ∧ Below W.heap.size W w') := fun W hb => pieces_val ((Lie.of_cel wideN k3.1).below hb) j2.l.ep _ jc2 rfl HJO.out.log ps HP.out
          have hsz := pieces_size (encL j2.l).size _ (Nat.le_refl _)
          rw [HP.out] at hsz
          have hle := encL_size (ep := j2.l.ep) (es := j2.l.es) HJO.out.log
          have hl3 := HJO.out.log.2.1
          have HSZ : Hid ((∀ p ∈ ps, p.size ≤ maxLen) ∧ ps.length ≤ 1000000) := ⟨fun p hp => by have := hsz.1 p hp; unfold maxLen; omega, by have h9 : (encL j2.l).size ≤ 24 + j2.l.es.length * 624 := hle; omega⟩
          clear hu k3 hsz hle hl3
          go_wp2_with (first
            | (go_at_call 69; refine (CP.out _ (Below.refl _ _)).mono ?_; rintro e w4 ⟨⟨pa, pc, pg, rfl, hPC⟩, b4⟩; have B4 : Hid (Below w3.heap.size w3 w4) := b4; have CAN : Hid (Calls Tryz.prog 65 #[.int .i64 0, .slice pa ps.length pc] w4 fun e w' => e = .returned (.string (ansT 0 ps)) ∧ Below w4.heap.size w4 w') := answered_val (Lie.of_cel wideS hPC) HSZ.out.1 0 (by omega) _ pc rfl HSZ.out.2 _ rfl; clear b4 hPC)
            | (go_at_call 65; refine CAN.out.mono ?_; rintro e w5 ⟨rfl, b5⟩; have B5 : Hid (Below w3.heap.size w3 w5) := bel_tr B4.out b5; clear b5))
          go_ret
          rw [HFIN.out]
          exact ⟨rfl, (HZ3.out.below B5.out).done1⟩
        · have hps : ps = [] := by rw [HPS.out, if_neg (by rw [hip]; simp)]
          subst hps
          rcases hkk with rfl | rfl
          all_goals
            go_wp2_with (first
              | (go_at_call 68; refine CD2.out.mono ?_; rintro e w3 ⟨rfl, hz3⟩; have hc0 := hz3.cell 1 rfl (j := 0) rfl; have HZ3 : Hid (Hz w O [jr jp pd ds2 j2] w3) := (hz3.erase 1); clear hz3 y0; have y0 := hc0; clear hc0)
              | (go_at_call 65; refine (CA.out _ 0 (by omega)).mono ?_; rintro e w4 ⟨rfl, b4⟩; have HZ4 : Hid (Hz w O [jr jp pd ds2 j2] w4) := HZ3.out.below b4; clear b4))
            go_ret
            rw [HFIN.out]
            exact ⟨rfl, HZ4.out.done1⟩
      · have hps : ps = [] := by rw [HPS.out, if_neg (fun e => h0 e.1)]
        subst hps
        have hnb : (q == 0) = false := beq_eq_false_iff_ne.2 h0
        have HDE : Hid (0 ≤ q ∧ q ≤ 100) := hde
        clear hde
        go_wp2_with (first
          | (go_at_call 68; refine CD2.out.mono ?_; rintro e w3 ⟨rfl, hz3⟩; have HZ3 : Hid (Hz w O [jr jp pd ds2 j2] w3) := (hz3.erase 1); clear hz3)
          | (go_at_call 65; refine (CA.out _ q HDE.out).mono ?_; rintro e w4 ⟨rfl, b4⟩; have HZ4 : Hid (Hz w O [jr jp pd ds2 j2] w4) := HZ3.out.below b4; clear b4))
        go_ret
        rw [HFIN.out]
        exact ⟨rfl, HZ4.out.done1⟩

end Go.Proofs.YtfmhmokbbkliaaaGreat.Jrn

/- The contracts of loadPromise, loadLog, Open. -/
namespace Go.Proofs.YtfmhmokbbkliaaaGreat.Jrn
open Go.RowKit Go.Proofs.YtfmhmokbbkliaaaGreat Go.Proofs.YtfmhmokbbkliaaaGreat.Wir Go.Proofs.YtfmhmokbbkliaaaGreat.Lgg Go.Proofs.YtfmhmokbbkliaaaGreat.Sep
set_option linter.unusedVariables false

theorem rd_small {O : Nat → Prop} {w : World} {pd : Nat} {ds : DS} (h : DAt O w pd ds) (n : List UInt8) : (rdT ds n).size ≤ 400000 := by
  obtain ⟨b, V, B, h⟩ := h
  unfold rdT
  split
  · show (0 : Nat) ≤ _; omega
  · show (fdat ds.S n).toArray.size ≤ _
    rw [List.size_toArray]
    unfold fdat
    cases hg : fget ds.S n with
    | none => simp
    | some f => have := (h.data _ (fget_mem hg)).1; simp at this ⊢; omega
/-- A log, is it whole, the error; its row is the call's own. -/
structure LdC (base : Nat) (l : Lg) (wh : Bool) (q : Int) (e : Ending) (w' : World) : Prop where
  ex : ∃ a c g, e = .returned (.tuple #[.agg #[.int .i64 l.ep, .slice a l.es.length c], .bool wh, .int .i64 q]) ∧ Cel (fun k => base ≤ k) w' 2 (.slice a l.es.length c) l.es.length (rowC enC l.es) g
theorem load_cel {O : Nat → Prop} {w : World} {pd : Nat} {ds : DS} (h0 : DAt O w pd ds) (s : ByteArray) (hs : s.size ≤ maxLen) (l : Lg) (wh : Bool) (er : Int) (hl : loadS (rdT ds s.data.toList) (rdE ds s.data.toList) = (l, wh, er)) :
    Calls Tryz.prog 102 #[.pointer (some ⟨pd, 0, none⟩), .string s] w fun e w' => LdC w.heap.size l wh er e w' ∧ Below w.heap.size w w' := by
  have h : Dk { w with heap := #[] } (fun _ => False) w pd ds := ⟨O, h0, fun k hk => ⟨Nat.zero_le _, id⟩, ⟨rfl, rfl, rfl, Nat.zero_le _, fun k hk => absurd hk (Nat.not_lt_zero _)⟩, fun k hk => hk.elim⟩
  have hbm : (rdT ds s.data.toList).size ≤ maxLen := by have := rd_small h0 s.data.toList; unfold maxLen; omega
  obtain ⟨b, ht⟩ : ∃ b, rdT ds s.data.toList = b := ⟨_, rfl⟩
  obtain ⟨q, hq⟩ : ∃ q, rdE ds s.data.toList = q := ⟨_, rfl⟩
  rw [ht] at hl hbm
  rw [hq] at hl
  unfold loadS at hl
  by_cases h00 : q = 0
  · rw [if_pos h00] at hl
    subst h00
    cases hp : parseL b with
    | none =>
      rw [hp] at hl
      cases hl
      have hE : epochP b = none := by
        unfold parseL at hp
        cases hE : epochP b with
        | none => rfl
        | some p => rw [hE] at hp; cases hp
      refine (load_form h s hs b hbm ht hq hE).mono ?_
      rintro e w' ⟨k1, k2⟩
      exact ⟨⟨none, 0, none, k1, .nil rfl rfl rfl⟩, k2⟩
    | some p =>
      obtain ⟨l', R⟩ := p
      rw [hp] at hl
      cases hl
      refine (load_yes h s hs b hbm ht hq l R hp _ rfl).mono ?_
      rintro e w' ⟨⟨a, c, g, k1, k2⟩, k3⟩
      exact ⟨⟨a, c, g, k1, k2⟩, k3⟩
  · rw [if_neg h00] at hl
    cases hl
    refine (load_err h s hs b ht _ hq h00).mono ?_
    rintro e w' ⟨k1, k2⟩
    exact ⟨⟨none, 0, none, k1, .nil rfl rfl rfl⟩, k2⟩
theorem loadS_ok {b : ByteArray} {q er : Int} {l : Lg} {wh : Bool} (h : loadS b q = (l, wh, er)) : RtL l := by
  unfold loadS at h
  split at h
  · split at h
    · rename_i l' R hp
      cases h
      exact parse_right hp
    · cases h; exact rt_none
  · cases h; exact rt_none

section
variable {w w1 : World} {O : Nat → Prop} {L : List Th}
theorem Hz.nilcel (h : Hz w O L w1) : Hz w O (celT 2 (.slice none 0 0) 0 [] none :: L) w1 :=
  h.put (Below.refl _ _) ⟨.nil rfl rfl rfl, fun q hq => hq.2⟩
theorem load_hz {pd : Nat} {ds : DS} (h : Hz w O L w1) (i : Nat) (hi : L[i]? = some (dsk pd ds)) (s : ByteArray) (hs : s.size ≤ maxLen) (l : Lg) (wh : Bool) (er : Int) (hl : loadS (rdT ds s.data.toList) (rdE ds s.data.toList) = (l, wh, er)) :
    Calls Tryz.prog 102 #[.pointer (some ⟨pd, 0, none⟩), .string s] w1 fun e w' => ∃ a c g, e = .returned (.tuple #[.agg #[.int .i64 l.ep, .slice a l.es.length c], .bool wh, .int .i64 er]) ∧ Hz w O (celT 2 (.slice a l.es.length c) l.es.length (rowC enC l.es) g :: L) w' := by
  obtain ⟨O1, k1⟩ := h.get i hi
  refine (load_cel k1 s hs l wh er hl).mono ?_
  rintro e w' ⟨⟨a, c, g, h1, h2⟩, h3⟩
  exact ⟨a, c, g, h1, h.put h3 (bel_cel h2)⟩
end

set_option maxRecDepth 100000 in
set_option maxHeartbeats 2000000 in
theorem loadPromise_val {O : Nat → Prop} {w : World} {pd : Nat} {ds : DS} (h : DAt O w pd ds) :
    Calls Tryz.prog 57 #[.pointer (some ⟨pd, 0, none⟩)] w fun e w' => e = .returned (.tuple #[.int .i64 (ldP ds).2, .int .i64 (ldP ds).1]) ∧ Below w.heap.size w w' := by
  obtain ⟨⟨l, wh, er⟩, hl⟩ : ∃ x, loadS (rdT ds prN.data.toList) (rdE ds prN.data.toList) = x := ⟨_, rfl⟩
  have CL : Hid (Calls Tryz.prog 102 #[.pointer (some ⟨pd, 0, none⟩), .string prN] w fun e w' => LdC w.heap.size l wh er e w' ∧ Below w.heap.size w w') := load_cel h prN pr_small l wh er hl
  have hp : ldP ds = if er = 5 then (0, 0) else if er = 0 then (if wh = true ∧ l.es.length = 0 ∧ 1 ≤ l.ep then (0, l.ep) else (2, 0)) else (er, 0) := by unfold ldP; rw [hl]
  obtain ⟨n, hn⟩ : ∃ n, l.es.length = n := ⟨_, rfl⟩
  have hl3 := (loadS_ok hl).2.1
  obtain ⟨ep, es⟩ := l
  simp only at hn hp hl3
  rw [hn] at hp hl3
  have HN : Hid (es.length = n) := hn
  clear h hl hn
  by_cases h5 : er = 5
  · subst h5
    have HFIN : Hid (ldP ds = (0, 0)) := by show _ = _; rw [hp]; rfl
    clear hp
    go_enter Tryz.func57, Tryz.ntmps57
    go_wp2_with (go_at_call 102; refine CL.out.mono ?_; rintro e w1 ⟨⟨a, c, g, hx, hC⟩, b1⟩; simp only at hx; rw [HN.out] at hx; subst hx; have B1 : Hid (Below w.heap.size w w1) := b1; clear b1 hC)
    go_ret2
    rw [HFIN.out]
    exact ⟨rfl, bel_tr B1.out (bel_al _ _)⟩
  · rw [if_neg h5] at hp
    by_cases h0 : er = 0
    · subst h0
      rw [if_pos rfl] at hp
      cases wh with
      | false =>
        have HFIN : Hid (ldP ds = (2, 0)) := by show _ = _; rw [hp]; simp
        clear hp
        go_enter Tryz.func57, Tryz.ntmps57
        go_wp2_with (go_at_call 102; refine CL.out.mono ?_; rintro e w1 ⟨⟨a, c, g, hx, hC⟩, b1⟩; simp only at hx; rw [HN.out] at hx; subst hx; have B1 : Hid (Below w.heap.size w w1) := b1; clear b1 hC)
        go_ret2
        rw [HFIN.out]
        exact ⟨rfl, bel_tr B1.out (bel_al _ _)⟩
      | true =>
        by_cases hn0 : n = 0
        · by_cases hep : 1 ≤ ep
          · have HFIN : Hid (ldP ds = (0, ep)) := by show _ = _; rw [hp, if_pos ⟨rfl, hn0, hep⟩]
            clear hp
            have hlt : ¬ ep < 1 := by omega
            subst hn0
            go_enter Tryz.func57, Tryz.ntmps57
            go_wp2_with (go_at_call 102; refine CL.out.mono ?_; rintro e w1 ⟨⟨a, c, g, hx, hC⟩, b1⟩; simp only at hx; rw [HN.out] at hx; subst hx; have B1 : Hid (Below w.heap.size w w1) := b1; clear b1 hC)
            go_ret2
            rw [HFIN.out]
            exact ⟨rfl, bel_tr B1.out (bel_al _ _)⟩
          · have HFIN : Hid (ldP ds = (2, 0)) := by show _ = _; rw [hp, if_neg (fun e => hep e.2.2)]
            clear hp
            have hlt : ep < 1 := by omega
            subst hn0
            go_enter Tryz.func57, Tryz.ntmps57
            go_wp2_with (go_at_call 102; refine CL.out.mono ?_; rintro e w1 ⟨⟨a, c, g, hx, hC⟩, b1⟩; simp only at hx; rw [HN.out] at hx; subst hx; have B1 : Hid (Below w.heap.size w w1) := b1; clear b1 hC)
            go_ret2
            rw [HFIN.out]
            exact ⟨rfl, bel_tr B1.out (bel_al _ _)⟩
        · have HFIN : Hid (ldP ds = (2, 0)) := by show _ = _; rw [hp, if_neg (fun e => hn0 e.2.1)]
          clear hp
          have hlt : (0 : Int) < (n : Int) := by omega
          have hlt2 : 0 < n := by omega
          have hd1 : decide ((0 : Int) < (n : Int)) = true := decide_eq_true hlt
          have hd2 : decide (0 < n) = true := decide_eq_true hlt2
          go_enter Tryz.func57, Tryz.ntmps57
          go_wp2_with (go_at_call 102; refine CL.out.mono ?_; rintro e w1 ⟨⟨a, c, g, hx, hC⟩, b1⟩; simp only at hx; rw [HN.out] at hx; subst hx; have B1 : Hid (Below w.heap.size w w1) := b1; clear b1 hC)
          go_ret2
          rw [HFIN.out]
          exact ⟨rfl, bel_tr B1.out (bel_al _ _)⟩
    · rw [if_neg h0] at hp
      have HFIN : Hid (ldP ds = (er, 0)) := hp
      have hb5 : (er == 5) = false := beq_eq_false_iff_ne.2 h5
      have hb0 : (er == 0) = false := beq_eq_false_iff_ne.2 h0
      clear hp
      go_enter Tryz.func57, Tryz.ntmps57
      go_wp2_with (go_at_call 102; refine CL.out.mono ?_; rintro e w1 ⟨⟨a, c, g, hx, hC⟩, b1⟩; simp only at hx; rw [HN.out] at hx; subst hx; have B1 : Hid (Below w.heap.size w w1) := b1; clear b1 hC)
      go_ret2
      rw [HFIN.out]
      exact ⟨rfl, bel_tr B1.out (bel_al _ _)⟩

end Go.Proofs.YtfmhmokbbkliaaaGreat.Jrn

/- The contracts of loadLog and Open. -/
namespace Go.Proofs.YtfmhmokbbkliaaaGreat.Jrn
open Go.RowKit Go.Proofs.YtfmhmokbbkliaaaGreat Go.Proofs.YtfmhmokbbkliaaaGreat.Wir Go.Proofs.YtfmhmokbbkliaaaGreat.Lgg Go.Proofs.YtfmhmokbbkliaaaGreat.Sep
set_option linter.unusedVariables false

/-- How loadLog ends: its log's row beside the disk. -/
structure LlR (w : World) (O : Nat → Prop) (pd : Nat) (ds : DS) (l : Lg) (er : Int) (e : Ending) (w' : World) : Prop where
  ex : ∃ a c g, e = .returned (.tuple #[.agg #[.int .i64 l.ep, .slice a l.es.length c], .int .i64 er]) ∧ Hz w O [celT 2 (.slice a l.es.length c) l.es.length (rowC enC l.es) g, dsk pd ds] w'

set_option maxRecDepth 100000 in
set_option maxHeartbeats 2000000 in
theorem loadLog_val {O : Nat → Prop} {w : World} {pd : Nat} {ds : DS} (h : (dsk pd ds).A O w) :
    Calls Tryz.prog 58 #[.pointer (some ⟨pd, 0, none⟩)] w fun e w' => LlR w O pd (ldL ds).2.2 (ldL ds).2.1 (ldL ds).1 e w' := by
  have hz0 : Hz w O [dsk pd ds] w := Hz.start ⟨O, fun _ => False, h, fun _ e => e.elim, fun _ _ e => e, fun _ e => e, fun _ e => e.elim, (dsk pd ds).lt h⟩
  have hz1 := hz0.box [.int .i64 0, .slice none 0 0] 34
  obtain ⟨⟨l, wh, er⟩, hl⟩ : ∃ x, loadS (rdT ds lgN.data.toList) (rdE ds lgN.data.toList) = x := ⟨_, rfl⟩
  have hok := loadS_ok hl
  have hp : ldL ds = if er = 5 then (0, ⟨0, []⟩, ds) else if er = 0 then (if wh = true then (0, l, ds) else if (stoR ds lgN (encL l)).1 = 0 then (0, l, (stoR ds lgN (encL l)).2) else ((stoR ds lgN (encL l)).1, ⟨0, []⟩, (stoR ds lgN (encL l)).2)) else (er, ⟨0, []⟩, ds) := by unfold ldL; rw [hl]
  have CL : Hid (Calls Tryz.prog 102 #[.pointer (some ⟨pd, 0, none⟩), .string lgN] (w.alloc (.cells #[.int .i64 0, .slice none 0 0] 34)) fun e w' => ∃ a c g, e = .returned (.tuple #[.agg #[.int .i64 l.ep, .slice a l.es.length c], .bool wh, .int .i64 er]) ∧ Hz w O [celT 2 (.slice a l.es.length c) l.es.length (rowC enC l.es) g, box w.heap.size [.int .i64 0, .slice none 0 0], dsk pd ds] w') := load_hz hz1 1 rfl lgN lg_small l wh er hl
  obtain ⟨ep, es⟩ := l
  simp only at hp hok CL
  obtain ⟨n, hn⟩ : ∃ n, es.length = n := ⟨_, rfl⟩
  rw [hn] at CL
  have HN : Hid (es.length = n) := hn
  clear hz0 hz1 hl h hn
  have hst2 : ∀ (w : World) (a : Addr) (x : Option Addr) (n c : Nat) (m : Mode), (store a (.slice x n c) m).run Tryz.prog w = stored Tryz.prog w a (.slice x n c) m := fun w a x n c m => run_store (P := Tryz.prog) w a _ m rfl
  obtain ⟨RB, hRB⟩ : ∃ RB, w.heap.size = RB := ⟨_, rfl⟩
  go_enter Tryz.func58, Tryz.ntmps58
  rw [hRB] at CL
  go_upto_region 2 with (go_at_call 102; refine CL.out.mono ?_; rintro e w1 ⟨a, c, g, rfl, hz2⟩; have HZ2 : Hid (Hz w O [celT 2 (.slice a n c) n (rowC enC es) g, box RB [.int .i64 0, .slice none 0 0], dsk pd ds] w1) := hz2; clear hz2)
  have HZ3 : Hid (Hz w O [box w1.heap.size [.int .i64 ep, .slice a n c], celT 2 (.slice a n c) n (rowC enC es) g, box RB [.int .i64 0, .slice none 0 0], dsk pd ds] (w1.alloc (.cells #[.int .i64 ep, .slice a n c] 34))) := HZ2.out.box [.int .i64 ep, .slice a n c] 34
  have y0 := HZ3.out.cell 0 rfl (j := 0) rfl
  have y1 := HZ3.out.cell 0 rfl (j := 1) rfl
  have z0 := HZ3.out.cell 2 rfl (j := 0) rfl
  have z1 := HZ3.out.cell 2 rfl (j := 1) rfl
  have f0 := HZ3.out.fr 2 rfl 0
  have f1 := HZ3.out.fr 2 rfl 1
  clear HZ2 CL
  try rw [hRB]
  generalize w1.alloc (.cells #[.int .i64 ep, .slice a n c] 34) = W2 at *
  generalize w1.heap.size = LB at *
  clear hRB
  -- the ends: nothing, or the log
  have ENDN : Hid (∀ (W : World) (ds9 : DS), Hz w O [box LB [.int .i64 ep, .slice a n c], celT 2 (.slice a n c) n (rowC enC es) g, box RB [.int .i64 0, .slice none 0 0], dsk pd ds9] W → ((W.setCell ⟨RB, 0, none⟩ (.int .i64 0)).setCell ⟨RB, 1, none⟩ (.slice none 0 0)).cell? ⟨RB, 0, none⟩ = some (.int .i64 0) ∧ ((W.setCell ⟨RB, 0, none⟩ (.int .i64 0)).setCell ⟨RB, 1, none⟩ (.slice none 0 0)).cell? ⟨RB, 1, none⟩ = some (.slice none 0 0) ∧ Hz w O [celT 2 (.slice none 0 0) 0 (rowC enC []) none, dsk pd ds9] ((W.setCell ⟨RB, 0, none⟩ (.int .i64 0)).setCell ⟨RB, 1, none⟩ (.slice none 0 0))) := fun W ds9 h => by
    have h2 := (h.setBox 2 rfl 0 (.int .i64 0) (by simp)).setBox 2 rfl 1 (.slice none 0 0) (by simp)
    exact ⟨h2.cell 2 rfl (j := 0) rfl, h2.cell 2 rfl (j := 1) rfl, Hz.nilcel (((h2.erase 2).erase 1).erase 0)⟩
  have ENDY : Hid (∀ (W : World) (ds9 : DS), Hz w O [box LB [.int .i64 ep, .slice a n c], celT 2 (.slice a n c) n (rowC enC es) g, box RB [.int .i64 0, .slice none 0 0], dsk pd ds9] W → ((W.setCell ⟨RB, 0, none⟩ (.int .i64 ep)).setCell ⟨RB, 1, none⟩ (.slice a n c)).cell? ⟨RB, 0, none⟩ = some (.int .i64 ep) ∧ ((W.setCell ⟨RB, 0, none⟩ (.int .i64 ep)).setCell ⟨RB, 1, none⟩ (.slice a n c)).cell? ⟨RB, 1, none⟩ = some (.slice a n c) ∧ Hz w O [celT 2 (.slice a es.length c) es.length (rowC enC es) g, dsk pd ds9] ((W.setCell ⟨RB, 0, none⟩ (.int .i64 ep)).setCell ⟨RB, 1, none⟩ (.slice a n c))) := fun W ds9 h => by
    have h2 := (h.setBox 2 rfl 0 (.int .i64 ep) (by simp)).setBox 2 rfl 1 (.slice a n c) (by simp)
    have hn := HN.out
    subst hn
    exact ⟨h2.cell 2 rfl (j := 0) rfl, h2.cell 2 rfl (j := 1) rfl, ((h2.erase 2).erase 0)⟩
  by_cases h5 : er = 5
  · subst h5
    have HFIN : Hid (ldL ds = (0, ⟨0, []⟩, ds)) := by show _ = _; rw [hp]; rfl
    clear hp
    go_wp2
    obtain ⟨k0, k1, k2⟩ := ENDN.out _ _ HZ3.out
    refine bodyPost_ret (v := .tuple #[.agg #[.int .i64 0, .slice none 0 0], .int .i64 0]) ?_ rfl ?_
    · simp only [results, Tryz.results58]
      simp [go_sem, k0, k1]
    · rw [HFIN.out]
      exact ⟨none, 0, none, rfl, k2⟩
  · rw [if_neg h5] at hp
    have hb5 : (er == 5) = false := beq_eq_false_iff_ne.2 h5
    by_cases h0 : er = 0
    · subst h0
      rw [if_pos rfl] at hp
      cases wh with
      | true =>
        have HFIN : Hid (ldL ds = (0, ⟨ep, es⟩, ds)) := by show _ = _; rw [hp]; rfl
        clear hp
        go_wp2
        obtain ⟨k0, k1, k2⟩ := ENDY.out _ _ HZ3.out
        refine bodyPost_ret (v := .tuple #[.agg #[.int .i64 ep, .slice a n c], .int .i64 0]) ?_ rfl ?_
        · simp only [results, Tryz.results58]
          simp [go_sem, k0, k1]
        · rw [HFIN.out]
          exact ⟨a, c, g, by simp only [HN.out], k2⟩
      | false =>
        obtain ⟨⟨q, ds2⟩, hq⟩ : ∃ r, stoR ds lgN (encL ⟨ep, es⟩) = r := ⟨_, rfl⟩
        rw [hq] at hp
        have CS : Hid (Calls Tryz.prog 103 #[.pointer (some ⟨pd, 0, none⟩), .string lgN, .agg #[.int .i64 ep, .slice a n c]] W2 fun e w' => e = .returned (.int .i64 q) ∧ Hz w O [box LB [.int .i64 ep, .slice a n c], celT 2 (.slice a n c) n (rowC enC es) g, box RB [.int .i64 0, .slice none 0 0], dsk pd ds2] w') := by
          obtain ⟨O4, k4⟩ := HZ3.out.get 1 rfl
          have k5 : Cel O4 W2 2 (.slice a es.length c) es.length (rowC enC es) g := by rw [HN.out]; exact k4.1
          exact HZ3.out.act 3 rfl (store_acts (Lie.of_cel wideN k5) ep n c HN.out hok lgN lg_ok q hq)
        clear hq
        by_cases hq0 : q = 0
        · subst hq0
          have HFIN : Hid (ldL ds = (0, ⟨ep, es⟩, ds2)) := by show _ = _; rw [hp]; rfl
          clear hp
          go_wp2_with (go_at_call 103; refine CS.out.mono ?_; rintro e w4 ⟨rfl, hz4⟩; have HZ4 : Hid (Hz w O [box LB [.int .i64 ep, .slice a n c], celT 2 (.slice a n c) n (rowC enC es) g, box RB [.int .i64 0, .slice none 0 0], dsk pd ds2] w4) := hz4; clear hz4 y0 y1 z0 z1 f0 f1; have y0 := HZ4.out.cell 0 rfl (j := 0) rfl; have y1 := HZ4.out.cell 0 rfl (j := 1) rfl; have z0 := HZ4.out.cell 2 rfl (j := 0) rfl; have z1 := HZ4.out.cell 2 rfl (j := 1) rfl; have f0 := HZ4.out.fr 2 rfl 0; have f1 := HZ4.out.fr 2 rfl 1)
          obtain ⟨k0, k1, k2⟩ := ENDY.out _ _ HZ4.out
          refine bodyPost_ret (v := .tuple #[.agg #[.int .i64 ep, .slice a n c], .int .i64 0]) ?_ rfl ?_
          · simp only [results, Tryz.results58]
            simp [go_sem, k0, k1]
          · rw [HFIN.out]
            exact ⟨a, c, g, by simp only [HN.out], k2⟩
        · have HFIN : Hid (ldL ds = (q, ⟨0, []⟩, ds2)) := by show _ = _; rw [hp]; simp [hq0]
          have hbq : (q == 0) = false := beq_eq_false_iff_ne.2 hq0
          clear hp
          go_wp2_with (go_at_call 103; refine CS.out.mono ?_; rintro e w4 ⟨rfl, hz4⟩; have HZ4 : Hid (Hz w O [box LB [.int .i64 ep, .slice a n c], celT 2 (.slice a n c) n (rowC enC es) g, box RB [.int .i64 0, .slice none 0 0], dsk pd ds2] w4) := hz4; clear hz4 y0 y1 z0 z1 f0 f1; have z0 := HZ4.out.cell 2 rfl (j := 0) rfl; have z1 := HZ4.out.cell 2 rfl (j := 1) rfl; have f0 := HZ4.out.fr 2 rfl 0; have f1 := HZ4.out.fr 2 rfl 1)
          obtain ⟨k0, k1, k2⟩ := ENDN.out _ _ HZ4.out
          refine bodyPost_ret (v := .tuple #[.agg #[.int .i64 0, .slice none 0 0], .int .i64 q]) ?_ rfl ?_
          · simp only [results, Tryz.results58]
            simp [go_sem, k0, k1]
          · rw [HFIN.out]
            exact ⟨none, 0, none, rfl, k2⟩
    · rw [if_neg h0] at hp
      have HFIN : Hid (ldL ds = (er, ⟨0, []⟩, ds)) := hp
      have hb0 : (er == 0) = false := beq_eq_false_iff_ne.2 h0
      clear hp
      go_wp2
      obtain ⟨k0, k1, k2⟩ := ENDN.out _ _ HZ3.out
      refine bodyPost_ret (v := .tuple #[.agg #[.int .i64 0, .slice none 0 0], .int .i64 er]) ?_ rfl ?_
      · simp only [results, Tryz.results58]
        simp [go_sem, k0, k1]
      · rw [HFIN.out]
        exact ⟨none, 0, none, rfl, k2⟩

end Go.Proofs.YtfmhmokbbkliaaaGreat.Jrn
