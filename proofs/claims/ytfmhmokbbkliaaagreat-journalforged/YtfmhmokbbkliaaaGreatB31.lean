/- Part 31 of the proof: JrnR1, LogY4. -/
import Derived.Test.YtfmhmokbbkliaaaGreatB26
import Derived.Test.YtfmhmokbbkliaaaGreatB27
import Derived.Test.YtfmhmokbbkliaaaGreatB29
import Derived.Test.YtfmhmokbbkliaaaGreatB30

/- The contracts of the reference's requests. -/
namespace Go.Proofs.YtfmhmokbbkliaaaGreat.Jrn
open Go.RowKit Go.Proofs.YtfmhmokbbkliaaaGreat Go.Proofs.YtfmhmokbbkliaaaGreat.Wir Go.Proofs.YtfmhmokbbkliaaaGreat.Lgg
set_option linter.unusedVariables false

theorem refJoinV_is (ss : List ByteArray) : ∃ v : Bool, refJoinV ss = .tuple #[.string (joinT ss), .bool v] := by
  cases h : joinOk ss with
  | true => exact ⟨true, by rw [refJoinV_yes h]; unfold joinT; rw [if_pos h]⟩
  | false => exact ⟨false, by rw [refJoinV_no h]; unfold joinT; rw [h]; rfl⟩
set_option maxRecDepth 100000 in
theorem refJoined_val {w : World} {a : Option Addr} {b off : Nat} {ss : List ByteArray} (h : Strs w a b off ss) (n c : Nat) (hn : ss.length = n) (J : ByteArray) (hJ : joinT ss = J) :
    Calls Tryz.prog 48 #[.slice a n c] w fun e w' => e = .returned (.string J) ∧ Below w.heap.size w w' := by
  subst hn hJ
  obtain ⟨q, hq⟩ := refJoinV_is ss
  have HJ : Hid (Calls Tryz.prog 91 #[.slice a ss.length c] w fun e w' => e = .returned (.tuple #[.string (joinT ss), .bool q]) ∧ Below w.heap.size w w') := by
    have h1 := refJoin_any a b off c ss w h
    rw [hq] at h1
    exact h1
  clear hq h
  generalize joinT ss = J at *
  generalize ss.length = n at *
  go_enter Tryz.func48, Tryz.ntmps48
  go_wp2_with fail
  refine HJ.out.mono ?_
  rintro e w1 ⟨rfl, b1⟩
  go_wp2
  go_ret
  exact ⟨rfl, b1⟩
set_option maxRecDepth 100000 in
theorem ref15Num_val (n : Int) (w : World) (h0 : -9223372036854775808 ≤ n) (h1 : n ≤ 9223372036854775807) : Calls Tryz.prog 47 #[.int .i64 n] w fun e w' => e = .returned (.string (numT n)) ∧ Below w.heap.size w w' := by
  have HN : Hid (Calls Tryz.prog 90 #[.int .i64 n] w fun e w' => e = .returned (.string (numT n)) ∧ Below w.heap.size w w') := refNum_val n w h0 h1
  clear h0 h1
  go_enter Tryz.func47, Tryz.ntmps47
  go_wp2_with fail
  refine HN.out.mono ?_
  rintro e w1 ⟨rfl, b1⟩
  go_wp2
  go_ret
  exact ⟨rfl, b1⟩

set_option maxRecDepth 100000 in
theorem refPromise_val (ep : Int) (h0 : -9223372036854775808 ≤ ep) (h1 : ep ≤ 9223372036854775807) (w : World) (J : ByteArray) (hJ : joinT [pT, numT ep] = J) :
    Calls Tryz.prog 18 #[.int .i64 ep] w fun e w' => e = .returned (.string J) ∧ Below w.heap.size w w' := by
  have HN : Hid (Calls Tryz.prog 47 #[.int .i64 ep] w fun e w' => e = .returned (.string (numT ep)) ∧ Below w.heap.size w w') := ref15Num_val ep w h0 h1
  have HJ : Hid (∀ (W : World) (b : Nat), Strs W (some ⟨b, 0, none⟩) b 0 [pT, numT ep] → Calls Tryz.prog 48 #[.slice (some ⟨b, 0, none⟩) 2 2] W fun e w' => e = .returned (.string J) ∧ Below W.heap.size W w') := fun W b hS => refJoined_val hS 2 2 rfl J hJ
  have HSM : Hid (∀ s ∈ [pT, numT ep], s.size ≤ maxLen) := by
    have h2 := numT_size h0 h1
    intro s hs
    simp at hs
    rcases hs with rfl | rfl
    · show 1 ≤ maxLen; unfold maxLen; omega
    · unfold maxLen; omega
  clear hJ h0 h1
  generalize numT ep = X at *
  go_enter Tryz.func18, Tryz.ntmps18
  go_wp2_with fail
  refine HN.out.mono ?_
  rintro e w1 ⟨rfl, b1⟩
  have B1 : Hid (Below w.heap.size w w1) := b1
  clear b1
  go_wp2_with fail
  refine (HJ.out _ _ (strs_new w1 [pT, X] _ HSM.out (len_ok (by simp)))).mono ?_
  rintro e w2 ⟨rfl, b2⟩
  go_wp2
  go_ret
  exact ⟨rfl, bel_tr B1.out (bel_tr (bel_al _ _) b2)⟩

set_option maxRecDepth 100000 in
theorem refAddQ_no (ep : Int) (x : En) (hs : x.d.size ≤ maxLen) (hv : addR1 x = false) (w : World) :
    Calls Tryz.prog 13 #[.int .i64 ep, .agg #[.int .i64 x.tx, .string x.d]] w fun e w' => e = .returned (.tuple #[.string ⟨#[]⟩, .bool false]) ∧ Below w.heap.size w w' := by
  have hno : ¬ (1 ≤ x.tx ∧ x.tx ≤ 300 ∧ x.d.size ≤ 600) := fun e => by rw [(addR1_iff x).2 e] at hv; cases hv
  obtain ⟨tx, d⟩ := x
  simp only at hs hno ⊢
  unfold maxLen at hs
  have hways : tx < 1 ∨ (¬ tx < 1 ∧ 300 < tx) ∨ (¬ tx < 1 ∧ ¬ 300 < tx ∧ 600 < d.size) := by omega
  clear hv hno
  rcases hways with h1 | ⟨h1, h2⟩ | ⟨h1, h2, h3⟩
  all_goals
    go_enter Tryz.func13, Tryz.ntmps13
    go_wp2
    go_ret2
    exact ⟨rfl, bel_al _ _⟩

set_option maxRecDepth 100000 in
set_option maxHeartbeats 2000000 in
theorem refAddQ_yes (ep : Int) (h0 : -9223372036854775808 ≤ ep) (h1 : ep ≤ 9223372036854775807) (x : En) (hv : addR1 x = true) (w : World) (J : ByteArray) (hJ : joinT [wT, numT ep, numT x.tx, x.d] = J) :
    Calls Tryz.prog 13 #[.int .i64 ep, .agg #[.int .i64 x.tx, .string x.d]] w fun e w' => e = .returned (.tuple #[.string J, .bool true]) ∧ Below w.heap.size w w' := by
  obtain ⟨k1, k2, k3⟩ := (addR1_iff x).1 hv
  obtain ⟨tx, d⟩ := x
  simp only at k1 k2 k3 hJ ⊢
  have HN : Hid (∀ W, Calls Tryz.prog 47 #[.int .i64 ep] W fun e w' => e = .returned (.string (numT ep)) ∧ Below W.heap.size W w') := fun W => ref15Num_val ep W h0 h1
  have HT : Hid (∀ W, Calls Tryz.prog 47 #[.int .i64 tx] W fun e w' => e = .returned (.string (numT tx)) ∧ Below W.heap.size W w') := fun W => ref15Num_val tx W (by omega) (by omega)
  have HJ : Hid (∀ (W : World) (b : Nat), Strs W (some ⟨b, 0, none⟩) b 0 [wT, numT ep, numT tx, d] → Calls Tryz.prog 48 #[.slice (some ⟨b, 0, none⟩) 4 4] W fun e w' => e = .returned (.string J) ∧ Below W.heap.size W w') := fun W b hS => refJoined_val hS 4 4 rfl J hJ
  have HSM : Hid (∀ s ∈ [wT, numT ep, numT tx, d], s.size ≤ maxLen) := by
    have h2 := numT_size h0 h1
    have h3 := numT_size (n := tx) (by omega) (by omega)
    intro s hs
    simp at hs
    rcases hs with rfl | rfl | rfl | rfl
    · show 1 ≤ maxLen; unfold maxLen; omega
    · unfold maxLen; omega
    · unfold maxLen; omega
    · unfold maxLen; omega
  obtain ⟨z, hz⟩ : ∃ z : Int, (d.size : Int) = z := ⟨_, rfl⟩
  have n1 : ¬ tx < 1 := by omega
  have n2 : ¬ 300 < tx := by omega
  have n3 : ¬ 600 < z := by omega
  have n4 : ¬ 600 < d.size := by omega
  clear hJ h0 h1 k1 k2 k3 hv
  generalize numT ep = X at *
  generalize numT tx = Y at *
  obtain ⟨q0, q1, _, _⟩ := cells2 w (.int .i64 tx) (.string d) 24
  have B0 : Hid (Below w.heap.size w (w.alloc (.cells #[.int .i64 tx, .string d] 24))) := bel_al _ _
  obtain ⟨R, hR⟩ : ∃ R, w.heap.size = R := ⟨_, rfl⟩
  rw [hR] at q0 q1
  have HR : Hid (w.heap.size = R) := hR
  go_enter Tryz.func13, Tryz.ntmps13
  go_upto_region 1 with fail
  clear hR
  generalize w.alloc (.cells #[.int .i64 tx, .string d] 24) = w1 at *
  have p0 := q0
  have p1 := q1
  have B1 : Hid (Below w.heap.size w w1) := B0.out
  clear q0 q1 B0
  go_upto_region 3 with fail
  have M1 : Hid True := trivial
  go_region_held3 (fun w' => w'.cell? ⟨R, 0, none⟩ = some (.int .i64 tx) ∧ w'.cell? ⟨R, 1, none⟩ = some (.string d))
    (first | (refine ⟨bel_cell KB.out p0, bel_cell KB.out p1⟩; done) | go_keep)
    (first
      | (go_at_call 47; have m1 := M1.out; refine (HN.out _).mono ?_; rintro x w2 ⟨rfl, b2⟩; (first | (have KC : Below w1.heap.size w1 w2 := b2) | (have KC := Lgg.kb1 b2)); have KB : Hid (Below w1.heap.size w1 w2) := KC; have M2 : Hid True := trivial; clear b2 KC m1 M1)
      | (go_at_call 47; have m2 := M2.out; refine (HT.out _).mono ?_; rintro x w3 ⟨rfl, b3⟩; (first | (have KC := bel_tr KB.out b3) | (have KC := Lgg.kb3 KB.out b3)); clear KB; have KB : Hid (Below w1.heap.size w1 w3) := KC; have M3 : Hid True := trivial; clear b3 KC m2 M2)
      | (go_at_call 48; refine (HJ.out _ _ (strs_new _ [wT, X, Y, d] _ HSM.out (len_ok (by simp)))).mono ?_; rintro x w4 ⟨rfl, b4⟩; have KC := bel_tr KB.out (bel_tr (bel_al _ _) b4); clear KB; have KB : Hid (Below w1.heap.size w1 w4) := KC; clear b4 KC))
  all_goals
    go_wp2
    go_ret2
    exact ⟨rfl, bel_tr B1.out KB.out⟩

set_option maxRecDepth 100000 in
theorem refAcceptQ_no {O : Nat → Prop} {w : World} {a : Option Addr} {es : List En} (h : Lie enC O w a es) (hd : ∀ x ∈ es, x.d.size ≤ maxLen) (ep : Int) (n c : Nat) (hn : es.length = n) (hR : ¬ RtL ⟨ep, es⟩) :
    Calls Tryz.prog 11 #[.int .i64 ep, .slice a n c] w fun e w' => e = .returned (.tuple #[.string ⟨#[]⟩, .bool false]) ∧ Below w.heap.size w w' := by
  have HR : Hid (Calls Tryz.prog 46 #[.agg #[.int .i64 ep, .slice a n c]] w fun e w' => e = .returned (.bool false) ∧ Below w.heap.size w w') := refRight_val h hd ep n c hn false ⟨fun e => (by cases e), fun e => absurd e hR⟩
  clear h hd hn hR
  go_enter Tryz.func11, Tryz.ntmps11
  go_wp2_with fail
  refine HR.out.mono ?_
  rintro e w1 ⟨rfl, b1⟩
  go_wp2
  go_ret2
  exact ⟨rfl, b1⟩

set_option maxRecDepth 100000 in
set_option maxHeartbeats 2000000 in
theorem refAcceptQ_yes {O : Nat → Prop} {w : World} {a : Option Addr} {es : List En} (h : Lie enC O w a es) (ep : Int) (n c : Nat) (hn : es.length = n) (hR : RtL ⟨ep, es⟩) (J : ByteArray) (hJ : joinT (accTs ep es) = J) :
    Calls Tryz.prog 11 #[.int .i64 ep, .slice a n c] w fun e w' => e = .returned (.tuple #[.string J, .bool true]) ∧ Below w.heap.size w w' := by
  have hep := ep_in hR.1
  simp only at hep
  have hds : ∀ x ∈ es, x.d.size ≤ 600 := fun x hx => by
    obtain ⟨i, hi, rfl⟩ := List.getElem_of_mem hx
    exact (hR.2.2 i hi).2
  have hn3 : n ≤ 300 := by have := hR.2.1; simp only at this; omega
  have h10 := numT_size (n := ep) (by omega) (by omega)
  have HR : Hid (Calls Tryz.prog 46 #[.agg #[.int .i64 ep, .slice a n c]] w fun e w' => e = .returned (.bool true) ∧ Below w.heap.size w w') := refRight_val h (fun x hx => by have := hds x hx; unfold maxLen; omega) ep n c hn true ⟨fun _ => hR, fun _ => rfl⟩
  have HN : Hid (∀ W, Calls Tryz.prog 47 #[.int .i64 ep] W fun e w' => e = .returned (.string (numT ep)) ∧ Below W.heap.size W w') := fun W => ref15Num_val ep W (by omega) (by omega)
  unfold accTs at hJ
  have HSM : Hid (∀ s ∈ aT :: numT ep :: es.map En.d, s.size ≤ maxLen) := fun s hs2 => by
    rcases List.mem_cons.1 hs2 with rfl | hs2
    · show 1 ≤ maxLen; unfold maxLen; omega
    · rcases List.mem_cons.1 hs2 with rfl | hs2
      · unfold maxLen; omega
      · obtain ⟨x, hx, rfl⟩ := List.mem_map.1 hs2
        have := hds x hx; unfold maxLen; omega
  generalize numT ep = X at *
  have HJ : Hid (∀ (W : World) (a7 : Option Addr) (c7 : Nat) (O7 : Nat → Prop) (g7 : Option Nat), Cel O7 W 1 (.slice a7 (n + 2) c7) (n + 2) (rowC strC (aT :: X :: es.map En.d)) g7 → Calls Tryz.prog 48 #[.slice a7 (n + 2) c7] W fun e w' => e = .returned (.string J) ∧ Below W.heap.size W w') := fun W a7 c7 O7 g7 hC => by
    obtain ⟨h1, b, h2⟩ := strs_of_cel hC HSM.out
    exact refJoined_val h2 (n + 2) c7 h1 J hJ
  have HL : Hid (Lie enC O w a es) := h
  have HNN : Hid (es.length = n) := hn
  obtain ⟨ti, hi1, hi2, hi3, hi4⟩ := info_s
  clear h hds hn h10 hJ HSM hR hep
  go_enter Tryz.func11, Tryz.ntmps11
  go_wp2_with fail
  refine HR.out.mono ?_
  rintro e w1 ⟨rfl, b1⟩
  have B1 : Hid (Below w.heap.size w w1) := b1
  clear b1
  go_wp2_with fail
  refine (HN.out _).mono ?_
  rintro e w2 ⟨rfl, b2⟩
  have B2 : Hid (Below w.heap.size w w2) := bel_tr B1.out b2
  clear b2 B1
  have CW : Hid (Cel (fun q => w.heap.size ≤ q) (w2.alloc (.cells #[.string aT, .string X] 9)) 1 (.slice (some ⟨w2.heap.size, 0, none⟩) 2 2) 2 (rowC strC [aT, X]) (some w2.heap.size)) := cel_new w2 _ B2.out.size [.string aT, .string X] _ 1 2 rfl (by unfold maxLen; omega)
  have BW : Hid (Below w.heap.size w (w2.alloc (.cells #[.string aT, .string X] 9))) := bel_tr B2.out (bel_al _ _)
  go_wp2_with fail
  go_loopw [7, 8] (fun v u wr => ∃ (i : Nat) (a' : Option Addr) (c' : Nat) (g : Option Nat), i ≤ n ∧ u = .int .i64 i ∧ v = .slice a' (i + 2) c' ∧ Cel (fun q => w.heap.size ≤ q) wr 1 (.slice a' (i + 2) c') (i + 2) (rowC strC (aT :: X :: (es.take i).map En.d)) g ∧ Below w.heap.size w wr) (fun _ u _ => n - (intOf u).toNat)
  case atStart => exact ⟨0, _, _, _, by omega, rfl, rfl, CW.out, BW.out⟩
  case round =>
    obtain ⟨i, a', c', g, hi, rfl, rfl, hC, hb⟩ := hrel
    have HC : Hid (Cel (fun q => w.heap.size ≤ q) wr 1 (.slice a' (i + 2) c') (i + 2) (rowC strC (aT :: X :: (es.take i).map En.d)) g) := hC
    have HBB : Hid (Below w.heap.size w wr) := hb
    clear hC hb CW BW B2
    by_cases hlt : i < n
    · have hie : i < es.length := by rw [HNN.out]; exact hlt
      obtain ⟨b, off, rfl, hc⟩ := (HL.out.below HBB.out).at wideN hie
      have HTK : Hid (rowC strC (aT :: X :: (es.take (i + 1)).map En.d) = rowC strC (aT :: X :: (es.take i).map En.d) ++ [.string es[i].d]) := by
        show (_ : List Value) = _
        rw [List.take_succ_eq_append_getElem hie, List.map_append, List.map_singleton, show aT :: X :: ((es.take i).map En.d ++ [es[i].d]) = (aT :: X :: (es.take i).map En.d) ++ [es[i].d] from rfl, rowC_app, rowC_one]
        rfl
      generalize es[i] = x at *
      obtain ⟨tx, d⟩ := x
      have q0 : wr.cell? ⟨b, off + i * 2, none⟩ = some (.int .i64 tx) := hc 0 _ rfl
      have q1 : wr.cell? ⟨b, off + i * 2 + 1, none⟩ = some (.string d) := hc 1 _ rfl
      clear hc
      simp only at HTK
      have SW : Hid (Src Tryz.prog 1 76 (.slice (some ⟨wr.heap.size, 0, none⟩) 1 1) 1 [.string d] (wr.alloc (.cells #[.string d] 9))) := src_str wr d
      have BX : Hid (Below wr.heap.size wr (wr.alloc (.cells #[.string d] 9))) := bel_al _ _
      go_wp2_with (at_builtin; refine wpList_append_cel _ rfl _ _ 76 76 rfl 9 ti _ 1 16 Tryz.underlying76 hi1 hi2 hi3 hi4 rfl (O := fun q => w.heap.size ≤ q) (.slice a' (i + 2) c') (i + 2) _ g rfl (HC.out.below BX.out) _ 1 [.string d] rfl SW.out (by unfold maxLen; omega) (by omega) ?_; intro a7 c7 w7 g7 hC7 hS7 hg7; have H7 : Hid (Cel (fun q => w.heap.size ≤ q) w7 1 (.slice a7 (i + 2 + 1) c7) (i + 2 + 1) (rowC strC (aT :: X :: (es.take i).map En.d) ++ [.string d]) g7 ∧ Below w.heap.size w w7) := cel_app (bel_tr HBB.out BX.out) (HC.out.below BX.out) hC7 hS7; clear hC7 hS7 hg7)
      go_roundw
      case rel => exact ⟨i + 1, a7, c7, g7, by omega, by go_num, by rw [show i + 1 + 2 = i + 2 + 1 by omega], by rw [HTK.out, show i + 1 + 2 = i + 2 + 1 by omega]; exact H7.out.1, H7.out.2⟩
      case measure => simp [intOf]; omega
    · obtain rfl : i = n := by omega
      have HF : Hid (es.take i = es) := List.take_of_length_le (by rw [HNN.out]; omega)
      have HC2 : Hid (Cel (fun q => w.heap.size ≤ q) wr 1 (.slice a' (i + 2) c') (i + 2) (rowC strC (aT :: X :: es.map En.d)) g) := by
        have := HC.out
        rw [HF.out] at this
        exact this
      clear HC HF
      go_wp2_with fail
      refine (HJ.out _ _ _ _ _ HC2.out).mono ?_
      rintro e w8 ⟨rfl, b8⟩
      go_wp2
      go_ret2
      exact ⟨rfl, bel_tr HBB.out b8⟩

end Go.Proofs.YtfmhmokbbkliaaaGreat.Jrn

/- The disk and the document's side by side, under calls of log. -/
namespace Go.Proofs.YtfmhmokbbkliaaaGreat.Lgg
open Go.RowKit Go.Proofs.YtfmhmokbbkliaaaGreat
set_option linter.unusedVariables false

section
variable {w0 w : World} {pf : Option Nat} {B : Option Obj} {pd px : Nat} {ds ds' d1 d2 : DS}
/-- The program's disk does something. -/
theorem half_d {F : Nat} {args : Array Value} {r : Ending} (h : Half w0 pf B w pd px ds d2) (c : ∀ K, Dk w0 K w pd ds → Calls Tryz.prog F args w fun e w' => e = r ∧ Dk w0 K w' pd ds' ∧ Stay (fun k => ¬ K k) w w') :
    Calls Tryz.prog F args w fun e w' => e = r ∧ Half w0 pf B w' pd px ds' d2 := by
  obtain ⟨O1, O2, h1, ⟨a, c', g, h2⟩, hf, h3, h4, h5, h6, hp⟩ := h.out
  refine (c (fun k => O2 k ∨ pf = some k) ⟨O1, h1, fun k hk => ⟨h4 k hk, fun e => e.elim (h3 k hk) (fun e => (hp k e).1 hk)⟩, h6, fun k hk => hk.elim (h2.lt k) (fun e => (hp k e).2.2.1)⟩).mono fun e w' ⟨e1, e2, e3⟩ => ⟨e1, ?_⟩
  obtain ⟨O', k1, k2, k3, k4⟩ := e2.ex
  refine ⟨O', O2, k1, ⟨a, c', g, h2.stay e3 (fun k hk e => e (.inl hk))⟩, hf, fun k hk e => (k2 k hk).2 (.inl e), fun k hk => (k2 k hk).1, h5, k3, fun k hk => ?_⟩
  obtain ⟨n1, n2, n3, n4⟩ := hp k hk
  exact ⟨fun e => (k2 k e).2 (.inr hk), n2, Nat.lt_of_lt_of_le n3 e3.size, (e3.block k n3 (fun e => e (.inr hk))).trans n4⟩
/-- The document's does the same. -/
theorem half_x {F : Nat} {args : Array Value} {r : Ending} (h : Half w0 pf B w pd px ds' ds) (c : ∀ K, Xk w0 K w px ds → Calls Tryz.prog F args w fun e w' => e = r ∧ Xk w0 K w' px ds' ∧ Stay (fun k => ¬ K k) w w') :
    Calls Tryz.prog F args w fun e w' => e = r ∧ Half w0 pf B w' pd px ds' ds' := by
  obtain ⟨O1, O2, h1, ⟨a, c', g, h2⟩, hf, h3, h4, h5, h6, hp⟩ := h.out
  refine (c (fun k => O1 k ∨ pf = some k) ⟨⟨O2, a, c', g, h2, fun k hk => ⟨h5 k hk, fun e => e.elim (fun e => h3 k e hk) (fun e => (hp k e).2.1 hk)⟩, h6, fun k hk => hk.elim (lt_of h1 k) (fun e => (hp k e).2.2.1)⟩, hf⟩).mono fun e w' ⟨e1, e2, e3⟩ => ⟨e1, ?_⟩
  obtain ⟨O', a', c2, g', k1, k2, k3, k4⟩ := e2.ex
  refine ⟨O1, O', h1.stay e3 (fun k hk e => e (.inl hk)), ⟨a', c2, g', k1⟩, e2.fit, fun k hk e => (k2 k e).2 (.inl hk), h4, fun k hk => (k2 k hk).1, k3, fun k hk => ?_⟩
  obtain ⟨n1, n2, n3, n4⟩ := hp k hk
  exact ⟨n1, fun e => (k2 k e).2 (.inr hk), Nat.lt_of_lt_of_le n3 e3.size, (e3.block k n3 (fun e => e (.inr hk))).trans n4⟩
theorem half_fit (h : Half w0 pf B w pd px d1 d2) : Fit d2 := by obtain ⟨O1, O2, h1, _, hf, _⟩ := h.out; exact hf
theorem rd_size {ds : DS} (h : Fit ds) (n : List UInt8) : (rdT ds n).size ≤ maxLen := by
  unfold rdT maxLen
  split
  · show (0 : Nat) ≤ _; omega
  · show (fdat ds.S n).toArray.size ≤ _
    rw [List.size_toArray]
    unfold fdat
    cases hg : fget ds.S n with
    | none => simp
    | some f => have := (h.data _ (fget_mem hg)).1; simp at this ⊢; omega
theorem half_load (h : Half w0 pf B w pd px ds ds) (s : ByteArray) (hs : s.size ≤ maxLen) (l : Lg) (wh : Bool) (er : Int) (hl : loadS (rdT ds s.data.toList) (rdE ds s.data.toList) = (l, wh, er)) :
    Calls Tryz.prog 102 #[.pointer (some ⟨pd, 0, none⟩), .string s] w fun e w' => LdR w.heap.size l wh er e w' ∧ Below w.heap.size w w' := by
  have hf := half_fit h
  obtain ⟨O1, O2, h1, ⟨a, c', g, h2⟩, _, h3, h4, h5, h6, hp⟩ := h.out
  exact load_any (w0 := w0) (K := fun _ => False) ⟨O1, h1, fun k hk => ⟨h4 k hk, id⟩, h6, fun k hk => hk.elim⟩ s hs _ (rd_size hf _) rfl _ rfl l wh er hl
theorem half_refLoad (h : Half w0 pf B w pd px ds ds) (s : ByteArray) (l : Lg) (wh : Bool) (er : Int) (hl : loadS (rdT ds s.data.toList) (rdE ds s.data.toList) = (l, wh, er)) :
    Calls Tryz.prog 61 #[.pointer (some ⟨px, 0, none⟩), .string s] w fun e w' => LdR w.heap.size l wh er e w' ∧ Below w.heap.size w w' := by
  have hf := half_fit h
  obtain ⟨O1, O2, h1, ⟨a, c', g, h2⟩, _, h3, h4, h5, h6, hp⟩ := h.out
  exact refLoad_any h2 hf s _ (rd_size hf _) rfl _ rfl l wh er hl
end

end Go.Proofs.YtfmhmokbbkliaaaGreat.Lgg
