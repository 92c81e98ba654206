/- The contract of tabulariumlaw14.examples. -/
import Derived.Test.YtokldcifhjkmnaaLogL
import Derived.Test.YtokldcifhjkmnaaLogS
namespace Go.Proofs.Ytokldcifhjkmnaa.Lgg
open Go.RowKit Go.Proofs.Ytokldcifhjkmnaa
set_option linter.unusedVariables false

def lgN : ByteArray := ⟨#[108, 111, 103]⟩
def x0E : En := ⟨1, ⟨#[120]⟩⟩
theorem rt3 : RtL ⟨3, []⟩ := ⟨rfl, by simp, fun i h => by simp at h⟩
theorem rt3x : RtL ⟨3, [x0E]⟩ := RtL.snoc (es := []) rt3 (by simp) ⟨#[120]⟩ (by decide)
theorem one_row (w : World) (x : En) (t : TypeId) : Lie enC (fun k => w.heap.size ≤ k) (w.alloc (.cells #[.int .i64 x.tx, .string x.d] t)) (some ⟨w.heap.size, 0, none⟩) [x] := by
  refine ⟨by show 1 ≤ maxLen; unfold maxLen; omega, fun _ => ⟨w.heap.size, 0, rfl, Nat.le_refl _, by simp, fun j u hu => ?_⟩⟩
  rw [rowC_one] at hu
  rw [Nat.zero_add, World.cell?_alloc_new w _ _ j]
  simpa [enC] using hu

set_option maxRecDepth 100000 in
set_option maxHeartbeats 4000000 in
theorem examples14_val (w : World) : Calls Try.prog 8 #[] w fun e w' => e = .returned (.bool true) ∧ Below w.heap.size w w' := by
  have hs : nmOk lgN = true := by decide
  have hz0 := encL_size rt3
  have hz1 := encL_size rt3x
  simp only [List.length_nil, List.length_cons] at hz0 hz1
  have hsn := encL_snoc 3 [] x0E
  simp only [List.nil_append] at hsn
  have hx1 := encE_size (x := x0E) (by decide) (by decide) (by decide)
  have HS := sto_new (s := lgN) (b := encL ⟨3, []⟩) (room := 1000) hs (by omega) (by omega)
  have hl0 : (encL ⟨3, []⟩).data.toList.length = (encL ⟨3, []⟩).size := Wir.size_list _
  have HA := add_on (s := lgN) (A := (encL ⟨3, []⟩).data.toList) (a := (encL ⟨3, []⟩).size) (b := encE x0E) (room := 1000) (f := 0) hs (by omega) (by omega) (.inl rfl)
  have hcat : (encL ⟨3, []⟩).data.toList ++ (encE x0E).data.toList = (encL ⟨3, [x0E]⟩).data.toList := by rw [hsn, Wir.app_list]
  rw [hcat] at HA
  obtain ⟨r1, r2⟩ := rd_head (room := 1000) (f := 0) (n := lgN.data.toList) (A := (encL ⟨3, [x0E]⟩).data.toList) (a := (encL ⟨3, [x0E]⟩).data.toList.length) (r := [])
  rw [mk_list] at r2
  have hlg : lgN.size ≤ maxLen := by show 3 ≤ maxLen; unfold maxLen; omega
  have CS : Hid (∀ K W pd, Dk w K W pd ⟨1000, 0, false, []⟩ → Calls Try.prog 21 #[.pointer (some ⟨pd, 0, none⟩), .string ⟨#[108, 111, 103]⟩, .agg #[.int .i64 3, .slice none 0 0]] W fun e w' => e = .returned (.int .i64 0) ∧ Dk w K w' pd ⟨1000, 0, false, [(lgN.data.toList, (encL ⟨3, []⟩).data.toList, (encL ⟨3, []⟩).size)]⟩ ∧ Stay (fun k => ¬ K k) W w') := fun K W pd h => store_val h lgN hs (Lie.nil _ (fun _ => True) _ _) 3 0 0 rfl rt3 0 HS
  have CA : Hid (∀ K W pd, Dk w K W pd ⟨1000, 0, false, [(lgN.data.toList, (encL ⟨3, []⟩).data.toList, (encL ⟨3, []⟩).size)]⟩ → Calls Try.prog 22 #[.pointer (some ⟨pd, 0, none⟩), .string ⟨#[108, 111, 103]⟩, .agg #[.int .i64 1, .string ⟨#[120]⟩]] W fun e w' => e = .returned (.int .i64 0) ∧ Dk w K w' pd ⟨1000, 0, false, [(lgN.data.toList, (encL ⟨3, [x0E]⟩).data.toList, (encL ⟨3, [x0E]⟩).data.toList.length)]⟩ ∧ Stay (fun k => ¬ K k) W w') := fun K W pd h => add_val h lgN hs x0E (by decide) (by decide) (by decide) 0 HA
  have CL : Hid (∀ K W pd, Dk w K W pd ⟨1000, 0, false, [(lgN.data.toList, (encL ⟨3, [x0E]⟩).data.toList, (encL ⟨3, [x0E]⟩).data.toList.length)]⟩ → Calls Try.prog 17 #[.pointer (some ⟨pd, 0, none⟩), .string ⟨#[108, 111, 103]⟩] W fun e w' => LoadR W.heap.size ⟨3, [x0E]⟩ true e w' ∧ Below W.heap.size W w') := fun K W pd h => load_yes h lgN hlg (encL ⟨3, [x0E]⟩) (by unfold maxLen; omega) r2 r1 ⟨3, [x0E]⟩ ⟨#[]⟩ (parse_whole rt3x) true rfl
  clear hs hz0 hz1 hsn hx1 HS hl0 HA hcat r1 r2 hlg
  generalize (⟨1000, 0, false, [(lgN.data.toList, (encL ⟨3, []⟩).data.toList, (encL ⟨3, []⟩).size)]⟩ : DS) = D1 at CS CA
  generalize (⟨1000, 0, false, [(lgN.data.toList, (encL ⟨3, [x0E]⟩).data.toList, (encL ⟨3, [x0E]⟩).data.toList.length)]⟩ : DS) = D2 at CA CL
  have hst := fun (w : World) (a : Addr) (x : ByteArray) (m : Mode) => run_store (P := Try.prog) w a (.string x) m rfl
  have hst2 : ∀ (w : World) (a : Addr) (x : Option Addr) (n c : Nat) (m : Mode), (store a (.slice x n c) m).run Try.prog w = stored Try.prog w a (.slice x n c) m := fun w a x n c m => run_store (P := Try.prog) w a _ m rfl
  go_enter Try.func8, Try.ntmps8
  go_wp2_with fail
  refine (dk_new (w0 := w) (Below.refl _ _) 1000 1000 (by omega) (by omega)).mono ?_
  rintro e w1 ⟨pd, rfl, h1, b1⟩
  have H1 : Hid (Dk w (fun _ => False) w1 pd ⟨1000, 0, false, []⟩) := h1.less (fun _ e => e.elim)
  clear h1 b1
  go_wp2_with fail
  have x0 : (w1.alloc (.cells #[.int .i64 1, .string ⟨#[120]⟩] 49)).cell? ⟨w1.heap.size, 0, none⟩ = some (.int .i64 1) := World.cell?_alloc_new w1 _ _ 0
  have x1 : (w1.alloc (.cells #[.int .i64 1, .string ⟨#[120]⟩] 49)).cell? ⟨w1.heap.size, 1, none⟩ = some (.string ⟨#[120]⟩) := World.cell?_alloc_new w1 _ _ 1
  have H2 : Hid (Dk w (fun k => k = w1.heap.size) (w1.alloc (.cells #[.int .i64 1, .string ⟨#[120]⟩] 49)) pd ⟨1000, 0, false, []⟩) := H1.out.add (bel_al _ _) (fun k hk => .inr (by rw [hk]; simp))
  generalize w1.alloc (.cells #[.int .i64 1, .string ⟨#[120]⟩] 49) = W1 at *
  generalize w1.heap.size = xb at *
  refine (CS.out _ _ _ H2.out).mono ?_
  rintro e w2 ⟨rfl, h2, s2⟩
  have hxl := World.block_lt_of_cell? _ _ x0
  have kb := s2.block xb hxl (fun h => h rfl)
  have y0 := (World.cell?_of_block (a := ⟨xb, 0, none⟩) kb).trans x0
  have y1 := (World.cell?_of_block (a := ⟨xb, 1, none⟩) kb).trans x1
  have H3 : Hid (Dk w (fun k => k = xb) w2 pd D1) := h2
  clear x0 x1 kb s2 h2 H2 H1 CS hxl
  go_wp2_with fail
  refine (CA.out _ _ _ H3.out).mono ?_
  rintro e w3 ⟨rfl, h3, s3⟩
  have hxl := World.block_lt_of_cell? _ _ y0
  have kb := s3.block xb hxl (fun h => h rfl)
  have x0 := (World.cell?_of_block (a := ⟨xb, 0, none⟩) kb).trans y0
  have x1 := (World.cell?_of_block (a := ⟨xb, 1, none⟩) kb).trans y1
  have H4 : Hid (Dk w (fun k => k = xb) w3 pd D2) := h3
  clear y0 y1 kb s3 h3 H3 CA hxl
  go_wp2_with fail
  refine (CL.out _ _ _ H4.out).mono ?_
  rintro e w4 ⟨⟨a, c, g, rfl, hC⟩, b4⟩
  have y0 := bel_cell b4 x0
  have y1 := bel_cell b4 x1
  have B4 : Hid (Below w.heap.size w w4) := bel_tr H4.out.bel b4
  have y0a := cell_al y0
  have y1a := cell_al y1
  simp only [List.length_cons, List.length_nil, Nat.zero_add] at hC ⊢
  have HC : Hid (Cel (fun k => w3.heap.size ≤ k) w4 2 (.slice a 1 c) 1 (rowC enC [x0E]) g) := hC
  clear x0 x1 b4 hC CL H4
  have CSM : Hid (∀ W b', Below w4.heap.size w4 W → Lie enC (fun k => w4.heap.size ≤ k) W (some ⟨b', 0, none⟩) [x0E] → Calls Try.prog 19 #[.agg #[.int .i64 3, .slice a 1 c], .agg #[.int .i64 3, .slice (some ⟨b', 0, none⟩) 1 1]] W fun e w' => e = .returned (.bool true) ∧ Below W.heap.size W w') := fun W b' hb hl => same_val (Lie.of_cel wideN (xs := [x0E]) (HC.out.below hb)) hl 1 1 c 1 rfl rfl 3 3 true ⟨fun _ => rfl, fun _ => rfl⟩
  have CR : Hid (∀ W, Below w4.heap.size w4 W → Calls Try.prog 11 #[.agg #[.int .i64 3, .slice a 1 c]] W fun e w' => e = .returned (.bool true) ∧ Below W.heap.size W w') := fun W hb => right_val (Lie.of_cel wideN (xs := [x0E]) (HC.out.below hb)) (fun x hx => by simp at hx; subst hx; unfold maxLen; decide) 3 1 c rfl true ⟨fun _ => rt3x, fun _ => rfl⟩
  go_wp2_with fail
  have B5 : Hid (Below w4.heap.size w4 ((w4.alloc (.cells #[.int .i64 3, .slice a 1 c] 24)).alloc (.cells #[.int .i64 1, .string ⟨#[120]⟩] 49))) := bel_tr (bel_al _ _) (bel_al _ _)
  have z0 : ((w4.alloc (.cells #[.int .i64 3, .slice a 1 c] 24)).alloc (.cells #[.int .i64 1, .string ⟨#[120]⟩] 49)).cell? ⟨w4.heap.size, 0, none⟩ = some (.int .i64 3) := bel_cell (bel_al _ _) (World.cell?_alloc_new w4 _ _ 0)
  have z1 : ((w4.alloc (.cells #[.int .i64 3, .slice a 1 c] 24)).alloc (.cells #[.int .i64 1, .string ⟨#[120]⟩] 49)).cell? ⟨w4.heap.size, 1, none⟩ = some (.slice a 1 c) := bel_cell (bel_al _ _) (World.cell?_alloc_new w4 _ _ 1)
  have L5 : Hid (Lie enC (fun k => w4.heap.size ≤ k) ((w4.alloc (.cells #[.int .i64 3, .slice a 1 c] 24)).alloc (.cells #[.int .i64 1, .string ⟨#[120]⟩] 49)) (some ⟨w4.heap.size + 1, 0, none⟩) [x0E]) := by
    have h9 := one_row (w4.alloc (.cells #[.int .i64 3, .slice a 1 c] 24)) x0E 49
    rw [show (w4.alloc (.cells #[.int .i64 3, .slice a 1 c] 24)).heap.size = w4.heap.size + 1 by simp] at h9
    exact h9.mono (fun k hk _ => Nat.le_trans (Nat.le_succ _) hk)
  refine (CSM.out _ _ B5.out L5.out).mono ?_
  rintro e w5 ⟨rfl, b5⟩
  have v0 := bel_cell b5 z0
  have v1 := bel_cell b5 z1
  have B6 : Hid (Below w4.heap.size w4 w5) := bel_tr B5.out b5
  clear z0 z1 b5 B5 L5 CSM y0 y1 y0a y1a
  go_wp2_with (go_at_call 11; refine (CR.out _ B6.out).mono ?_; rintro e w6 ⟨rfl, b6⟩)
  go_ret
  exact ⟨rfl, bel_tr B4.out (bel_tr B6.out b6)⟩

end Go.Proofs.Ytokldcifhjkmnaa.Lgg
