/- The contract of log.Load where the bytes do not begin with an epoch; plain facts of torn files. -/
import Derived.Test.YtokldcifhjkmnabLogT
namespace Go.Proofs.Ytokldcifhjkmnab.Lgg
open Go.RowKit Go.Proofs.Ytokldcifhjkmnab
open Go.WideShapes (bytes_inj)
set_option linter.unusedVariables false

set_option maxRecDepth 100000 in
set_option maxHeartbeats 4000000 in
theorem load_form {w0 w : World} {K : Nat → Prop} {pd : Nat} {ds : DS} (h : Dk w0 K w pd ds) (s : ByteArray) (hs : s.size ≤ maxLen) (b : ByteArray) (hbm : b.size ≤ maxLen) (ht : rdT ds s.data.toList = b) (hq : rdE ds s.data.toList = 0) (hp : epochP b = none) :
    Calls Try.prog 11 #[.pointer (some ⟨pd, 0, none⟩), .string s] w fun e w' => e = .returned (.tuple #[.agg #[.int .i64 0, .slice none 0 0], .bool false, .int .i64 2]) ∧ Below w.heap.size w w' := by
  have HR : Hid (∀ W, Below w.heap.size w W → Calls Try.prog 22 #[.pointer (some ⟨pd, 0, none⟩), .string s] W fun e w' => e = .returned (.tuple #[.string b, .int .i64 0]) ∧ Below W.heap.size W w') := fun W hb => dk_read (h.below hb) s hs b 0 ht hq
  have HE : Hid (epochP b = none) := hp
  have HBM : Hid (b.size ≤ maxLen) := hbm
  have hmf : ∀ (fn : Fn) (first cap : Array Value) (w : World), (Instr.makeFunc fn first cap).run Try.prog w = .ok (.func fn first cap) w := fun _ _ _ _ => rfl
  have hst := fun (w : World) (a : Addr) (x : ByteArray) (m : Mode) => run_store (P := Try.prog) w a (.string x) m rfl
  have hst2 : ∀ (w : World) (a : Addr) (x : Option Addr) (n c : Nat) (m : Mode), (store a (.slice x n c) m).run Try.prog w = stored Try.prog w a (.slice x n c) m := fun w a x n c m => run_store (P := Try.prog) w a _ m rfl
  clear h ht hq hp hbm
  go_enter Try.func11, Try.ntmps11
  go_wp2_with fail
  refine (HR.out _ (bel_al _ _)).mono ?_
  rintro e w1 ⟨rfl, b1⟩
  have x0 : w1.cell? ⟨w.heap.size, 0, none⟩ = some (.int .i64 0) := bel_cell b1 (World.cell?_alloc_new w _ _ 0)
  have x1 : w1.cell? ⟨w.heap.size, 1, none⟩ = some (.slice none 0 0) := bel_cell b1 (World.cell?_alloc_new w _ _ 1)
  have fx : ∀ j, w1.frozen? ⟨w.heap.size, j, none⟩ = false := fun j => (World.frozen?_of_block (a := ⟨w.heap.size, j, none⟩) (b1.block w.heap.size (by simp))).trans (World.frozen?_alloc_new w _ _ j)
  have B1 : Hid (Below w.heap.size w w1) := bel_tr (bel_al _ _) b1
  have HX : Hid (w1.cell? ⟨w.heap.size, 0, none⟩ = some (.int .i64 0) ∧ w1.cell? ⟨w.heap.size, 1, none⟩ = some (.slice none 0 0) ∧ (∀ j, w1.frozen? ⟨w.heap.size, j, none⟩ = false)) := ⟨x0, x1, fx⟩
  clear x0 x1 fx b1 HR
  have C1 : Hid (Calls Try.prog 23 #[.func (.func 24) #[] #[.pointer (some ⟨w1.heap.size, 0, none⟩), .pointer (some ⟨w.heap.size, 0, none⟩)]] (w1.alloc (.cells #[.string b] 9)) fun e w' => e = .returned (.bool false) ∧ Below (w1.alloc (.cells #[.string b] 9)).heap.size (w1.alloc (.cells #[.string b] 9)) w') :=
    tried_no1 _ _ (cl1_no b HBM.out HE.out (bel_cell (bel_al _ _) (World.cell?_alloc_new w1 _ _ 0)))
  go_wp2_with (go_at_call 23; refine C1.out.mono ?_; rintro e w2 ⟨rfl, b2⟩; have bb := bel_tr (bel_al w1 (.cells #[.string b] 9)) b2; have y0 := bel_cell bb HX.out.1; have y1 := bel_cell bb HX.out.2.1; have hlt : w.heap.size < w1.heap.size := World.block_lt_of_cell? _ _ HX.out.1; have f0 := (World.frozen?_of_block (a := ⟨w.heap.size, 0, none⟩) (bb.block w.heap.size hlt)).trans (HX.out.2.2 0); have f1 := (World.frozen?_of_block (a := ⟨w.heap.size, 1, none⟩) (bb.block w.heap.size hlt)).trans (HX.out.2.2 1); have B2 : Hid (Below w.heap.size w w2) := bel_tr B1.out bb; clear b2 bb)
  obtain ⟨z0, z1⟩ := two_set (u' := .int .i64 0) (v' := .slice none 0 0) y0 y1
  refine bodyPost_ret (v := .tuple #[.agg #[.int .i64 0, .slice none 0 0], .bool false, .int .i64 2]) ?_ rfl ⟨rfl, Below.setCell (Below.setCell B2.out (Nat.le_refl _) _) (Nat.le_refl _) _⟩
  simp only [results, Try.results11]
  simp [go_sem, z0, z1]

/-! ### torn files -/
theorem numB_neg : Wir.numB (-1) = [1] := by
  have hz : Lib.zigzag (-1) = 1 := by decide
  unfold Wir.numB
  rw [hz]
  unfold Lib.uvarint
  simp
theorem takeT_neg (j : ByteArray) : Wir.takeT ((⟨#[1]⟩ : ByteArray) ++ j) = none := by
  cases hC : Wir.takeC 4000 ((⟨#[1]⟩ : ByteArray) ++ j) with
  | none => unfold Wir.takeT; rw [hC]
  | some p =>
    obtain ⟨n, r⟩ := p
    obtain ⟨z, k, h1, h2, _⟩ := Wir.takeC_yes hC
    have e : ((⟨#[1]⟩ : ByteArray) ++ j).data.toList = Wir.numB (-1) ++ j.data.toList := by rw [Wir.app_list, numB_neg]
    rw [e, Wir.take_num (-1) _ (by omega) (by omega)] at h1
    simp only [Option.some.injEq, Prod.mk.injEq] at h1
    rw [← h1.1, Wir.unzig_zig] at h2
    omega
theorem open_neg (j : ByteArray) : Smm.openT ((⟨#[1]⟩ : ByteArray) ++ j) = (⟨#[]⟩, ⟨#[]⟩, 2) := by
  rcases Smm.openT_cases ((⟨#[1]⟩ : ByteArray) ++ j) with ⟨_, h⟩ | ⟨t, r, hT, _⟩
  · exact h
  · rw [takeT_neg] at hT; cases hT
theorem parse_junk {l : Lg} (h : RtL l) (j : ByteArray) : parseL (encL l ++ ((⟨#[1]⟩ : ByteArray) ++ j)) = some (l, (⟨#[1]⟩ : ByteArray) ++ j) := by
  have hN : ∀ i, entryP ((⟨#[1]⟩ : ByteArray) ++ j) i = none := fun i => entryP_none (takeP_none (open_neg j) (by omega))
  rw [parse_back h, goL_stop hN]
theorem epoch_cut (ep : Int) (k : Nat) (hk : k < (Smm.sealB (numT ep)).size) : epochP ((Smm.sealB (numT ep)).extract 0 k) = none := by
  unfold epochP
  rw [takeP_none (Smm.open_cut (numT ep) k hk) (by omega)]
theorem encE_six (x : En) : 6 ≤ (encE x).size := by
  unfold encE
  rw [Smm.sealB_size]
  have h1 := Wir.numB_pos ((numT x.tx ++ x.d).size : Int)
  have h2 : 1 ≤ (numT x.tx ++ x.d).size := by
    rw [Wir.app_size]
    have := Wir.numB_pos x.tx
    unfold numT
    rw [Wir.mk_size]
    omega
  omega
theorem head_five (ep : Int) : 5 < (Smm.sealB (numT ep)).size := by
  rw [Smm.sealB_size]
  have h1 := Wir.numB_pos ((numT ep).size : Int)
  have h2 := Wir.numB_pos ep
  have h3 : (numT ep).size = (Wir.numB ep).length := by unfold numT; rw [Wir.mk_size]
  omega
theorem cut_app (a b : ByteArray) (k : Nat) (h : k ≤ b.size) : (a ++ b).extract 0 (a.size + k) = a ++ b.extract 0 k := by
  apply bytes_inj
  rw [Wir.cut_list, Wir.app_list, Wir.app_list, Wir.cut_list]
  have hl : a.data.toList.length = a.size := Wir.size_list a
  rw [← hl, List.take_length_add_append]

/-- What a file that lacks c bytes at its end tells. -/
theorem torn_out {l : Lg} (h : RtL l) (c : Nat) (hc : c < 5) :
    (c = 0 ∧ parseL ((encL l).extract 0 ((encL l).size - c)) = some (l, ⟨#[]⟩)) ∨ (0 < c ∧ l.es = [] ∧ epochP ((encL l).extract 0 ((encL l).size - c)) = none) ∨
      (0 < c ∧ 0 < l.es.length ∧ ∃ R, parseL ((encL l).extract 0 ((encL l).size - c)) = some (⟨l.ep, l.es.take (l.es.length - 1)⟩, R) ∧ 0 < R.size) := by
  have hall : (encL l).extract 0 (encL l).size = encL l := by
    apply bytes_inj
    rw [Wir.cut_list, List.take_of_length_le (by rw [Wir.size_list]; exact Nat.le_refl _)]
  rcases Nat.eq_zero_or_pos c with h0 | h0
  · subst h0
    exact .inl ⟨rfl, by rw [Nat.sub_zero, hall]; exact parse_whole h⟩
  · rcases Nat.eq_zero_or_pos l.es.length with h1 | h1
    · have h2 : l.es = [] := List.length_eq_zero_iff.1 h1
      refine .inr (.inl ⟨h0, h2, ?_⟩)
      have e : encL l = Smm.sealB (numT l.ep) := by unfold encL; rw [h2]; exact app_empty _
      have h5 := head_five l.ep
      rw [e]
      exact epoch_cut _ _ (by omega)
    · refine .inr (.inr ⟨h0, h1, ?_⟩)
      obtain ⟨m, hm⟩ : ∃ m, l.es.length = m + 1 := ⟨l.es.length - 1, by omega⟩
      have hlt : m < l.es.length := by omega
      have hes : l.es = l.es.take m ++ [l.es[m]] := by
        rw [← List.take_succ_eq_append_getElem hlt, List.take_of_length_le (by omega)]
      have e : encL l = encL ⟨l.ep, l.es.take m⟩ ++ encE l.es[m] := by
        have h9 := encL_snoc l.ep (l.es.take m) l.es[m]
        rw [← hes] at h9
        exact h9
      have h6 := encE_six l.es[m]
      have hR : RtL ⟨l.ep, l.es.take m⟩ := by
        refine ⟨h.1, by have := h.2.1; simp; omega, fun i hi => ?_⟩
        simp only [List.length_take] at hi
        simp only [List.getElem_take]
        exact h.2.2 i (by omega)
      have hsz : (encL l).size - c = (encL ⟨l.ep, l.es.take m⟩).size + ((encE l.es[m]).size - c) := by rw [e, Wir.app_size]; omega
      refine ⟨(encE l.es[m]).extract 0 ((encE l.es[m]).size - c), ?_, by rw [ByteArray.size_extract]; omega⟩
      rw [hsz]
      conv => lhs; rw [e]
      rw [cut_app _ _ _ (by omega), parse_torn hR l.es[m] _ (by omega)]
      rw [hm]
      rfl

end Go.Proofs.Ytokldcifhjkmnab.Lgg
