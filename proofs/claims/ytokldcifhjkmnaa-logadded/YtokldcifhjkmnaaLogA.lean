/- What is there behind Add, whenever the power goes, and a crash. -/
import Derived.Test.YtokldcifhjkmnaaLogT
namespace Go.Proofs.Ytokldcifhjkmnaa.Lgg
open Go.RowKit Go.Proofs.Ytokldcifhjkmnaa
open Go.WideShapes (bytes_inj)
set_option linter.unusedVariables false

/-- An entry more in a row of the law's own, whose log lies in the box BB. -/
structure App (W3 W4 W5 W7 : World) (BB : Nat) (ep : Int) (a7 : Option Addr) (n7 c7 : Nat) (es7 : List En) : Prop where
  bel : Below W3.heap.size W3 W7
  c0 : W7.cell? ⟨BB, 0, none⟩ = some (.int .i64 ep)
  c1 : W7.cell? ⟨BB, 1, none⟩ = some (.slice a7 n7 c7)
  row : Lie enC (fun k => W3.heap.size ≤ k ∧ k < W7.heap.size) W7 a7 es7
  keep : ∀ (b j : Nat) (v : Value), W4.heap.size ≤ b → W5.cell? ⟨b, j, none⟩ = some v → W7.cell? ⟨b, j, none⟩ = some v
  size : W5.heap.size ≤ W7.heap.size
theorem app_b {W3 W4 W5 w7 : World} {BB : Nat} {ep : Int} {a' a7 : Option Addr} {L c' c7 : Nat} {es : List En} {g' g7 : Option Nat} {I : Int} {d : ByteArray} {o : Obj}
    (hC : Cel (fun k => W3.heap.size ≤ k ∧ k < BB) W4 2 (.slice a' L c') L (rowC enC es) g') (hb4 : Below W3.heap.size W3 W4) (hBB : W3.heap.size ≤ BB ∧ BB < W4.heap.size) (q0 : W4.cell? ⟨BB, 0, none⟩ = some (.int .i64 ep)) (q1 : W4.cell? ⟨BB, 1, none⟩ = some (.slice a' L c')) (fz : ∀ j, W4.frozen? ⟨BB, j, none⟩ = false) (hb5 : Below W4.heap.size W4 W5)
    (hL : es.length = L) (hC7 : Cel (Grow (fun k => W3.heap.size ≤ k ∧ k < BB) (W5.alloc o) w7) w7 2 (.slice a7 (L + 1) c7) (L + 1) (rowC enC es ++ [.int .i64 I, .string d]) g7) (hS7 : Stay (fun k => g' = some k) (W5.alloc o) w7) :
    w7.cell? ⟨BB, 1, none⟩ = some (.slice a' L c') ∧ w7.frozen? ⟨BB, 1, none⟩ = false ∧ App W3 W4 W5 (w7.setCell ⟨BB, 1, none⟩ (.slice a7 (L + 1) c7)) BB ep a7 (L + 1) c7 (es ++ [⟨I, d⟩]) := by
  have hx : ∀ k, g' = some k → W3.heap.size ≤ k ∧ k < BB := fun k hk => by rw [hk] at hC; exact hC.lt.2
  have hal := bel_al W5 o
  have h45 := bel_tr hb5 hal
  have hz5 : (W5.alloc o).heap.size = W5.heap.size + 1 := by simp
  have s45 := hb5.size
  have kB := (hS7.block BB (by omega) (fun e => by have := hx BB e; omega)).trans (h45.block BB hBB.2)
  have y0 := (World.cell?_of_block (a := ⟨BB, 0, none⟩) kB).trans q0
  have y1 := (World.cell?_of_block (a := ⟨BB, 1, none⟩) kB).trans q1
  have yf := (World.frozen?_of_block (a := ⟨BB, 1, none⟩) kB).trans (fz 1)
  have s7 := hS7.size
  refine ⟨y1, yf, ?_, cell_set (by omega) y0, World.cell?_setCell_same _ _ _ y1, ?_, fun b j v hb hv => ?_, by rw [size_set]; omega⟩
  · have h1 : Below W3.heap.size W3 (W5.alloc o) := bel_tr hb4 h45
    have h2 : Below W3.heap.size W3 w7 := h1.trans (hS7.below h1.size (fun k hk => (hx k hk).1))
    exact Below.setCell h2 hBB.1 _
  · have e1 : rowC enC (es ++ [⟨I, d⟩]) = rowC enC es ++ [.int .i64 I, .string d] := by rw [rowC_app, rowC_one]; rfl
    have hg7 : g7 ≠ some BB := fun e => by
      rw [e] at hC7
      rcases hC7.lt.2 with h | h
      · have h9 : BB < BB := h.2; omega
      · have h9 := h.1; omega
    rw [← e1] at hC7
    have h8 := hC7.setOut ⟨BB, 1, none⟩ (.slice a7 (L + 1) c7) hg7
    have hl7 : (es ++ [(⟨I, d⟩ : En)]).length = L + 1 := by simp [hL]
    rw [← hl7] at h8 ⊢
    refine (Lie.of_cel wideN h8).mono (fun k hk hl => ⟨?_, by rw [size_set]; rw [size_set] at hl; exact hl⟩)
    rcases hk with h | h
    · exact h.1
    · have h9 := h.1; have h10 := hb4.size; omega
  · have hlt : b < W5.heap.size := World.block_lt_of_cell? _ _ hv
    have k1 := (hS7.block b (by omega) (fun e => by have := hx b e; omega)).trans (hal.block b hlt)
    exact other (by omega) ((World.cell?_of_block (a := ⟨b, j, none⟩) k1).trans hv)

theorem added_out (LA : Lg) (x : En) (hA : RtL LA) (hB : RtL ⟨LA.ep, LA.es ++ [x]⟩) (hs : (encL LA).size ≤ 20000) (hx : (encE x).size ≤ 700) (N : Nat) (hN : N < 3) :
    ∃ e ds2, addR ⟨400000, 1 + (N : Int), false, [(jN.data.toList, (encL LA).data.toList, (encL LA).data.toList.length)]⟩ jN (encE x) = (e, ds2) ∧ ds2.room = 400000 ∧
      ∀ ks, ∃ Z R sy b, ((Z = LA ∧ e = 12) ∨ (Z = ⟨LA.ep, LA.es ++ [x]⟩ ∧ (e = 0 ∨ e = 12))) ∧ crashL ks ds2.S = [(jN.data.toList, b.data.toList, sy)] ∧ parseL b = some (Z, R) ∧ b.size ≤ 30000 := by
  have hl : (encL LA).data.toList.length = (encL LA).size := Wir.size_list _
  have hl2 : (encE x).data.toList.length = (encE x).size := Wir.size_list _
  have hr1 : (encL LA).data.toList.length + (encE x).size ≤ 400000 := by omega
  have hr : (((encL LA).data.toList.length + (encE x).size : Nat) : Int) ≤ 400000 := by omega
  have hcat : (encL LA).data.toList ++ (encE x).data.toList = (encL ⟨LA.ep, LA.es ++ [x]⟩).data.toList := by rw [encL_snoc, Wir.app_list]
  have hs9 : (encL ⟨LA.ep, LA.es⟩).size ≤ 20000 := hs
  have hsz : (encL ⟨LA.ep, LA.es ++ [x]⟩).size ≤ 30000 := by rw [encL_snoc, Wir.app_size]; omega
  rcases (show N = 0 ∨ N = 1 ∨ N = 2 by omega) with rfl | rfl | rfl
  · refine ⟨12, _, add_one j_ok hr1 hr, rfl, fun ks => ?_⟩
    obtain ⟨r', h1⟩ := crash_head (n := jN.data.toList) (enc_ne LA) ks []
    have h2 : r' = [] := by
      have h3 : crashL ks [(jN.data.toList, (encL LA).data.toList, (encL LA).data.toList.length)] = _ := h1
      have h4 := congrArg List.length h3
      have h5 := (names_crashL [(jN.data.toList, (encL LA).data.toList, (encL LA).data.toList.length)] ks).length_le
      simp only [List.length_map, List.length_cons, List.length_nil] at h4 h5
      exact List.length_eq_zero_iff.1 (by omega)
    rw [h2] at h1
    exact ⟨LA, ⟨#[]⟩, _, encL LA, .inl ⟨rfl, rfl⟩, h1, parse_whole hA, by omega⟩
  · refine ⟨12, _, add_two j_ok hr1 hr, rfl, fun ks => ?_⟩
    obtain ⟨k, hk, h1⟩ := crash_part (n := jN.data.toList) (E := (encE x).data.toList) (enc_ne LA) ks
    rcases Nat.lt_or_ge k (encE x).size with h2 | h2
    · have e1 : (encL LA).data.toList ++ (encE x).data.toList.take k = (encL LA ++ (encE x).extract 0 k).data.toList := by rw [Wir.app_list, Wir.cut_list]
      rw [e1] at h1
      exact ⟨LA, _, _, _, .inl ⟨rfl, rfl⟩, h1, parse_torn hA x k h2, by rw [Wir.app_size, ByteArray.size_extract]; omega⟩
    · rw [List.take_of_length_le (by omega)] at h1
      exact ⟨_, ⟨#[]⟩, _, _, .inr ⟨rfl, .inr rfl⟩, h1.trans (by rw [hcat]), parse_whole hB, hsz⟩
  · have h9 := add_on (f := 1 + ((2 : Nat) : Int)) (a := (encL LA).data.toList.length) j_ok hr1 hr (.inr (by omega))
    rw [hcat] at h9
    refine ⟨0, _, h9, rfl, fun ks => ?_⟩
    obtain ⟨r', h1⟩ := crash_head (n := jN.data.toList) (enc_ne ⟨LA.ep, LA.es ++ [x]⟩) ks []
    have h2 : r' = [] := by
      have h4 := congrArg List.length h1
      have h5 := (names_crashL [(jN.data.toList, (encL ⟨LA.ep, LA.es ++ [x]⟩).data.toList, (encL ⟨LA.ep, LA.es ++ [x]⟩).data.toList.length)] ks).length_le
      simp only [List.length_map, List.length_cons, List.length_nil] at h4 h5
      exact List.length_eq_zero_iff.1 (by omega)
    rw [h2] at h1
    exact ⟨_, ⟨#[]⟩, _, _, .inr ⟨rfl, .inl rfl⟩, h1, parse_whole hB, hsz⟩

end Go.Proofs.Ytokldcifhjkmnaa.Lgg
