/- Part 26 of the proof: TreeFE. -/
import Derived.Test.YtdilfbfkeiaafaaGreatB25
set_option maxRecDepth 100000
set_option maxHeartbeats 8000000
namespace Go.Proofs.YtdilfbfkeiaafaaGreat
open Go.RowKit
def mvR (f t : ByteArray) (x : NR) : NR := (movN f t x.1, x.2)
def mvTo (f t : ByteArray) (qs : List NR) (i : Nat) : List NR := (qs.take i).map (mvR f t) ++ qs.drop i
theorem mvTo_len (f t : ByteArray) (qs : List NR) (i : Nat) : (mvTo f t qs i).length = qs.length := by
  unfold mvTo; rw [List.length_append, List.length_map, List.length_take, List.length_drop]; omega
theorem mvTo_zero (f t : ByteArray) (qs : List NR) : mvTo f t qs 0 = qs := by simp [mvTo]
theorem mvTo_all (f t : ByteArray) (qs : List NR) (i : Nat) (h : qs.length ≤ i) : mvTo f t qs i = qs.map (mvR f t) := by
  unfold mvTo; rw [List.take_of_length_le h, List.drop_of_length_le h, List.append_nil]
theorem mvTo_at (f t : ByteArray) (qs : List NR) (i : Nat) (h : i < qs.length) : (mvTo f t qs i)[i]'(by rw [mvTo_len]; exact h) = qs[i] := by
  unfold mvTo; rw [List.getElem_append_right (by rw [List.length_map, List.length_take]; omega)]
  simp only [List.length_map, List.length_take, List.getElem_drop]
  congr 1
  omega
theorem mvTo_next (f t : ByteArray) (qs : List NR) (i : Nat) (h : i < qs.length) : mvTo f t qs (i + 1) = (mvTo f t qs i).set i (mvR f t qs[i]) := by
  unfold mvTo; rw [List.take_succ_eq_append_getElem h, List.map_append, List.set_append_right _ _ (by rw [List.length_map, List.length_take]; omega)]
  have e : i - ((qs.take i).map (mvR f t)).length = 0 := by rw [List.length_map, List.length_take]; omega
  rw [e, List.drop_eq_getElem_cons h, List.set_cons_zero]
  simp
theorem Cel.setPath {O : Nat → Prop} {w : World} {a : Option Addr} {n c g : Nat} {qs : List NR} (h : Cel O w 5 (.slice a n c) n (rowC ndC qs) (some g)) (hn : qs.length = n) (i : Nat) (hi : i < n) (y : NR) (hy : ∀ j, 0 < j → (ndC y)[j]? = (ndC (qs[i]'(by omega)))[j]?) :
    Cel O (w.setCell ⟨g, i * 5, none⟩ (.string y.1.path)) 5 (.slice a n c) n (rowC ndC (qs.set i y)) (some g) := by
  have hc := h.cap2.1
  have h1 : (i + 1) * 5 ≤ c * 5 := Nat.mul_le_mul_right _ (by omega)
  have hl : (rowC ndC (qs.set i y)).length = n * 5 := by rw [rowC_len wideX, List.length_set, hn]
  refine h.setCells (i * 5) [.string y.1.path] (by simp; omega) n _ hc hl (fun q hq => ?_)
  rw [← List.getElem?_eq_getElem hq]
  rw [hl] at hq
  have hd : q / 5 < n := by omega
  have e := rowC_at wideX (qs.set i y) (q / 5) (by rw [List.length_set]; omega) (q % 5) (by omega)
  have e' := rowC_at wideX qs (q / 5) (by omega) (q % 5) (by omega)
  have e2 : q / 5 * 5 + q % 5 = q := by omega
  rw [e2] at e e'
  rw [e, e']
  by_cases hqi : q / 5 = i
  · subst hqi
    rw [List.getElem_set_self]
    by_cases h0 : q % 5 = 0
    · rw [if_pos (by simp; omega), show q - q / 5 * 5 = 0 by omega, h0]; rfl
    · rw [if_neg (by simp; omega), hy _ (by omega)]
  · rw [if_neg (by simp; omega), List.getElem_set_ne (fun e => hqi e.symm)]
theorem move_err {p f t : ByteArray} (hu : underB f p = true) (ht : splitE t = 0) (h : (moveX p f t).2 ≠ 0) : (moveX p f t).2 = 4 := by
  obtain ⟨h1, h2, h3⟩ := underB_iff.1 hu
  rw [moveX, if_pos ⟨hu, ht⟩] at *
  rcases joinX_cases (splitN t ++ (splitN p).drop (splitN f).length) with ⟨_, e⟩ | ⟨_, e, k⟩ | ⟨_, e, _⟩
  · rw [e] at h; exact absurd rfl h
  · rw [List.all_append, List.all_eq_true.2 (split_ok ht).1.names, Bool.true_and, List.all_eq_false] at k
    obtain ⟨m, hm, hm2⟩ := k
    exact absurd ((split_ok h2).1.names m (List.mem_of_mem_drop hm)) hm2
  · rw [e]
theorem moveX_small (p f t : ByteArray) : (moveX p f t).1.size ≤ maxLen := by
  obtain ⟨⟨q, E⟩, h⟩ : ∃ x, moveX p f t = x := ⟨_, rfl⟩
  rw [h]
  by_cases hE : E = 0
  · subst hE
    have := (move_back h).2.2
    show q.size ≤ maxLen
    unfold maxLen; omega
  · rw [moveX_empty h hE]; exact Nat.zero_le _
theorem moved_lot {base : Nat} {w4 wr : World} {am : Option Addr} {m cm : Nat} {qs : List NR} {g : Option Nat} {f t : ByteArray} (hL : Lot base w4 am m cm qs g) (hC : Cel (fun k => base ≤ k) wr 5 (.slice am m cm) m (rowC ndC (qs.map (mvR f t))) g) (hS : Stay (fun k => g = some k) w4 wr) : Lot base wr am m cm (qs.map (mvR f t)) g := by
  refine ⟨hC, by rw [List.length_map]; exact hL.len, fun x hx => ?_, fun x hx => ?_⟩
  · obtain ⟨y, hy, rfl⟩ := List.mem_map.1 hx
    have h1 := Stay.free (hL.ok y hy) hS (fun k hk e => hL.ap y hy k e hk)
    exact ⟨⟨moveX_small _ _ _, h1.ok.bs⟩, h1.own⟩
  · obtain ⟨y, hy, rfl⟩ := List.mem_map.1 hx
    exact hL.ap y hy
theorem refM_of {xs : NS} {f t : ByteArray} {E : Int} (h : MovE xs f t E) : (E ≠ 0 ∧ RefM xs f t E) ∨ (RefM xs f t 0 ∧ (E = 0 ∨ E = 4)) := by
  cases h with
  | arg h => exact .inl ⟨by decide, .arg h⟩
  | none h1 h2 h3 h4 h5 h6 h7 => exact .inl ⟨by decide, .none h1 h2 h3 h4 h5 h6 h7⟩
  | par e h1 h2 h3 h4 h5 h6 h7 h8 h9 => exact .inl ⟨h9, .par E h1 h2 h3 h4 h5 h6 h7 h8 h9⟩
  | exist h1 h2 h3 h4 h5 h6 h7 h8 h9 h10 => exact .inl ⟨by decide, .exist h1 h2 h3 h4 h5 h6 h7 h8 h9 h10⟩
  | long h1 h2 h3 h4 h5 h6 h7 h8 h9 h10 => exact .inr ⟨.ok h1 h2 h3 h4 h5 h6 h7 h8 h9, .inr rfl⟩
  | ok h1 h2 h3 h4 h5 h6 h7 h8 h9 h10 => exact .inr ⟨.ok h1 h2 h3 h4 h5 h6 h7 h8 h9, .inl rfl⟩
def movA (xs : NS) (f t : ByteArray) (E : Int) : NS := if E = 0 then movL xs f t else []
theorem move_bad {a : Option Addr} {n c : Nat} {xs : NS} {w : World} (h : NL w a n xs) (f t : ByteArray) (hf : f.size ≤ maxLen) (ht : t.size ≤ maxLen) (E : Int) (hE : RefM xs f t E) (h0 : E ≠ 0) :
    Calls Tryz.prog 106 #[.slice a n c, .string f, .string t] w fun e w' => TwoR w.heap.size [] E e w' ∧ Below w.heap.size w w' := by
  have CM : Hid (∀ W, Below w.heap.size w W → Calls Tryz.prog 142 #[.slice a n c, .string f, .string t] W fun e w' => e = .returned (.int .i64 E) ∧ Below W.heap.size W w') := fun W hb => refuseMove_val (h.below hb) f t hf ht E hE
  have h0b : (E != 0) = true := by simpa using h0
  clear h hf ht hE h0; go_enter Tryz.func106, Tryz.ntmps106; go_wp2_with (go_at_call 142; refine (CM.out _ (bel_tr (bel_al _ _) (bel_al _ _))).mono ?_; rintro e w1 ⟨rfl, c1⟩; have cc : Hid _ := bel_tr (bel_tr (bel_al _ _) (bel_al _ _)) c1; clear c1)
  go_ret2; exact ⟨TwoR.no _ _ rfl, cc.out⟩
theorem move_good {a : Option Addr} {n c : Nat} {xs : NS} {w : World} (h : NL w a n xs) (f t : ByteArray) (hf : f.size ≤ maxLen) (ht : t.size ≤ maxLen) (E : Int) (hR : RefM xs f t 0) (hE : MovE xs f t E) (h04 : E = 0 ∨ E = 4) :
    Calls Tryz.prog 106 #[.slice a n c, .string f, .string t] w fun e w' => TwoR w.heap.size (movA xs f t E) E e w' ∧ Below w.heap.size w w' := by
  have CM : Hid (∀ W, Below w.heap.size w W → Calls Tryz.prog 142 #[.slice a n c, .string f, .string t] W fun e w' => e = .returned (.int .i64 0) ∧ Below W.heap.size W w') := fun W hb => refuseMove_val (h.below hb) f t hf ht 0 hR
  have HLEN : Hid (xs.length = n) := by obtain ⟨_, _, _, _, k2, _⟩ := h.ex; exact k2
  have hright : Right xs := by
    cases hR with
    | par e h1 h2 h3 h4 h5 h6 h7 h8 h9 => exact h1
    | ok h1 h2 h3 h4 h5 h6 h7 h8 h9 => exact h1
  have hpt : splitE t = 0 := by
    cases hR with
    | par e h1 h2 h3 h4 h5 h6 h7 h8 h9 => simpa [pathB] using h4
    | ok h1 h2 h3 h4 h5 h6 h7 h8 h9 => simpa [pathB] using h4
  have hn60 : n ≤ 60 := by rw [← HLEN.out]; exact hright.few
  obtain ⟨ss, hss⟩ : ∃ ss, xs.filter (stayB f t) = ss := ⟨_, rfl⟩
  obtain ⟨ys, hys⟩ : ∃ ys, xs.filter (goesB f) = ys := ⟨_, rfl⟩
  obtain ⟨k, hk⟩ : ∃ k, ss.length = k := ⟨_, rfl⟩
  obtain ⟨m, hm⟩ : ∃ m, ys.length = m := ⟨_, rfl⟩
  have hk60 : k ≤ 60 := by
    have := List.length_filter_le (stayB f t) xs
    rw [hss, hk, HLEN.out] at this; omega
  have hm60 : m ≤ 60 := by
    have := List.length_filter_le (goesB f) xs
    rw [hys, hm, HLEN.out] at this; omega
  have HYM : Hid (ys.length = m) := hm
  have HUN : Hid (∀ x ∈ ys, underB f x.path = true) := fun x hx => by
    rw [← hys] at hx
    exact (List.mem_filter.1 hx).2
  have HLONG : Hid (E = 4 → ∃ x ∈ ys, (moveX x.path f t).2 ≠ 0) := fun e => by
    subst e; cases hE with
    | par e h1 h2 h3 h4 h5 h6 h7 h8 h9 =>
      cases hR with
      | par e h1 h2 h3 h4 h5 h6 h7 h8' h9 => exact absurd rfl h9
      | ok h1 h2 h3 h4 h5 h6 h7 h8' h9 => rw [h8'] at h8; cases h8
    | long h1 h2 h3 h4 h5 h6 h7 h8 h9 h10 =>
      obtain ⟨x, hx, hu, hne⟩ := h10
      exact ⟨x, by rw [← hys]; exact List.mem_filter.2 ⟨hx, hu⟩, hne⟩
  have HOK : Hid (E = 0 → (∀ x ∈ ys, (moveX x.path f t).2 = 0) ∧ Apart (ss ++ ys.map (movN f t)) ∧ movA xs f t E = sortN (ss ++ ys.map (movN f t)) ∧ 0 < m) := fun e => by
    subst e; have hM := mov_of hE
    refine ⟨fun x hx => ?_, ?_, ?_, ?_⟩
    · rw [← hys] at hx
      obtain ⟨h1, h2⟩ := List.mem_filter.1 hx
      exact hM.okm x h1 h2
    · rw [← hss, ← hys]; exact hM.apart
    · rw [← hss, ← hys]; rfl
    · obtain ⟨x, hx, hxf⟩ := hM.src
      have : x ∈ ys := by
        rw [← hys]
        refine List.mem_filter.2 ⟨hx, ?_⟩
        show underB f x.path = true
        rw [hxf]; exact under_self hM.pf
      rw [← hm]; exact List.length_pos_of_mem this
  have H4 : Hid (E ≠ 0 → E = 4) := fun e => h04.resolve_left e
  have HERR : Hid (∀ x ∈ ys, (moveX x.path f t).2 ≠ 0 → (moveX x.path f t).2 = 4) := fun x hx hne => move_err (HUN.out x hx) hpt hne
  have HPF : Hid (f.size ≤ maxLen) := hf
  have HPT : Hid (t.size ≤ maxLen) := ht
  have C1 : Hid (∀ W F T G, Below w.heap.size w W → W.cell? ⟨F, 0, none⟩ = some (.string f) → W.cell? ⟨T, 0, none⟩ = some (.string t) → W.cell? ⟨G, 0, none⟩ = some (.func (.func 143) #[] #[.pointer (some ⟨F, 0, none⟩)]) → Calls Tryz.prog 103 #[.slice a n c, .func (.func 144) #[] #[.pointer (some ⟨T, 0, none⟩), .pointer (some ⟨G, 0, none⟩)]] W fun e w' => ListR W.heap.size ss k e w' ∧ Below W.heap.size W w') := fun W F T G hb h1 h2 h3 =>
    chosen_val (h.below hb) hn60 hright.few8 144 #[.pointer (some ⟨T, 0, none⟩), .pointer (some ⟨G, 0, none⟩)] (stayB f t) (enters_of Tryz.func144 (by kernel_rfl) rfl) (fun W2 x hb2 hx => move2_val f t hf F T G W2 (bel_cell hb2 h1) (bel_cell hb2 h2) (bel_cell hb2 h3) x hx) ss hss k hk
  have C2 : Hid (∀ W F, Below w.heap.size w W → W.cell? ⟨F, 0, none⟩ = some (.string f) → Calls Tryz.prog 103 #[.slice a n c, .func (.func 143) #[] #[.pointer (some ⟨F, 0, none⟩)]] W fun e w' => ListR W.heap.size ys m e w' ∧ Below W.heap.size W w') := fun W F hb h1 =>
    chosen_val (h.below hb) hn60 hright.few8 143 #[.pointer (some ⟨F, 0, none⟩)] (goesB f) (enters_of Tryz.func143 (by kernel_rfl) rfl) (fun W2 x hb2 hx => move1_val f hf F W2 (bel_cell hb2 h1) x hx) ys hys m hm
  obtain ⟨ti, hi1, hi2, hi3, hi4⟩ := ndRow
  have hst := run_store_str
  have hst2 : ∀ (w : World) (a : Addr) (fn : Fn) (x y : Array Value) (m : Mode), (store a (.func fn x y) m).run Tryz.prog w = stored Tryz.prog w a (.func fn x y) m := fun w a fn x y m => run_store_any w a _ m rfl
  clear h hf ht hR hE h04 hright hpt hss hys hk hm; go_enter Tryz.func106, Tryz.ntmps106; go_wp2_with (first
    | (go_at_call 142; refine (CM.out _ (bel_tr (bel_al _ _) (bel_al _ _))).mono ?_; rintro e w1 ⟨rfl, c1⟩; have cc : Hid _ := bel_tr (bel_tr (bel_al _ _) (bel_al _ _)) c1; have tf := (two_boxes c1).1 0 _ rfl; have tt := (two_boxes c1).2.2.1 0 _ rfl; have TF : Hid (w1.cell? ⟨w.heap.size, 0, none⟩ = some (.string f)) := tf; have TT : Hid (w1.cell? ⟨w.heap.size + 1, 0, none⟩ = some (.string t)) := tt; have HG : Hid (∀ ty, (w1.alloc (.cells #[.func (.func 143) #[] #[.pointer (some ⟨w.heap.size, 0, none⟩)]] ty)).cell? ⟨w1.heap.size, 0, none⟩ = some (.func (.func 143) #[] #[.pointer (some ⟨w.heap.size, 0, none⟩)])) := fun ty => World.cell?_alloc_new w1 _ ty 0; clear c1))
  refine (C1.out _ w.heap.size (w.heap.size + 1) w1.heap.size (bel_tr cc.out (bel_al _ _)) (cell_al TF.out _) (cell_al TT.out _) (HG.out _)).mono ?_
  rintro e w3 ⟨⟨a3, c3, rfl, hX3⟩, d3⟩; have cc3 : Hid (Below w.heap.size w w3) := bel_tr (bel_tr cc.out (bel_al _ _)) d3
  have tf3 := bel_cell d3 (cell_al TF.out _)
  have tt3 := bel_cell d3 (cell_al TT.out _)
  have tg3 := bel_cell d3 (HG.out _)
  have HX3 : Hid (LX w.heap.size w3 a3 k c3 ss) := hX3.mono (bel_tr cc.out (bel_al _ _)).size
  have TF3 : Hid _ := tf3
  have TT3 : Hid _ := tt3
  clear d3 hX3; go_wp2_with fail
  refine (C2.out _ w.heap.size cc3.out TF3.out).mono ?_
  rintro e w4 ⟨⟨a4, c4, rfl, hX4⟩, d4⟩; have cc4 : Hid (Below w3.heap.size w3 w4) := d4
  have HX4 : Hid (LX w3.heap.size w4 a4 m c4 ys) := hX4
  clear d4 hX4; go_wp2; have HTF : Hid (w4.cell? ⟨w.heap.size, 0, none⟩ = some (.string f)) := bel_cell cc4.out TF3.out
  have HTT : Hid (w4.cell? ⟨w.heap.size + 1, 0, none⟩ = some (.string t)) := bel_cell cc4.out TT3.out
  have hlt0 : w.heap.size < w3.heap.size := World.block_lt_of_cell? _ _ TF3.out
  have hlt1 : w.heap.size + 1 < w3.heap.size := World.block_lt_of_cell? _ _ TT3.out
  have HLT0 : Hid _ := hlt0
  have HLT1 : Hid _ := hlt1
  obtain ⟨qs, g, hq, hL⟩ := HX4.out.ex
  have HQ : Hid (qs.map (·.1) = ys) := hq
  have HL : Hid (Lot w3.heap.size w4 a4 m c4 qs g) := hL
  clear tf tt tf3 tt3 tg3 TF TT TF3 TT3 CM C1 C2 hq hL hlt0 hlt1 HX4; go_loopw [12, 13, 14, 31] (fun _ _ _ v31 wr => ∃ i : Nat, i ≤ m ∧ v31 = .int .i64 i ∧ Cel (fun k => w3.heap.size ≤ k) wr 5 (.slice a4 m c4) m (rowC ndC (mvTo f t qs i)) g ∧ Stay (fun k => g = some k) w4 wr ∧ ∀ j (hj : j < ys.length), j < i → (moveX ys[j].path f t).2 = 0) (fun _ _ _ v31 _ => m - (intOf v31).toNat)
  case atStart => exact ⟨0, by omega, rfl, by rw [mvTo_zero]; exact HL.out.cel, Stay.refl _ _, fun j hj h0 => by omega⟩
  case round =>
    obtain ⟨i, hi, rfl, hC, hS, hz⟩ := hrel
    have HC : Hid (Cel (fun k => w3.heap.size ≤ k) wr 5 (.slice a4 m c4) m (rowC ndC (mvTo f t qs i)) g) := hC
    have HS : Hid (Stay (fun k => g = some k) w4 wr) := hS
    have HZ : Hid (∀ j (hj : j < ys.length), j < i → (moveX ys[j].path f t).2 = 0) := hz
    have hqm : qs.length = m := HL.out.len
    by_cases hlt : i < m
    · have hiq : i < qs.length := by omega
      have hiy : i < ys.length := by rw [HYM.out]; exact hlt
      obtain ⟨gb, hab, hgb⟩ := hC.at2 (by omega)
      subst hab hgb; have hgb3 : w3.heap.size ≤ gb := hC.lt.2
      have eqy : qs[i].1 = ys[i] := by
        have := HQ.out
        subst this; simp
      obtain ⟨b', e1, e2, e3⟩ := hC.elem wideX (i := i) (by rw [mvTo_len]; exact hiq) (by rw [mvTo_len]; exact hqm)
      cases e1
      rw [mvTo_at f t qs i hiq] at e3
      have y0 : wr.cell? ⟨gb, i * 5, none⟩ = some (.string qs[i].1.path) := e3 0 _ rfl
      have hcap := hC.cap2.1
      have hlv := (hC.live (i * 5) (by omega)).2
      have hsz : qs[i].1.path.size ≤ maxLen := (HL.out.ok _ (List.getElem_mem hiq)).ok.small
      have bf : wr.cell? ⟨w.heap.size, 0, none⟩ = some (.string f) := (World.cell?_of_block (a := ⟨w.heap.size, 0, none⟩) (hS.block _ (World.block_lt_of_cell? _ _ HTF.out) (fun e => by have := HLT0.out; have e2 : gb = w.heap.size := (by simpa using e); omega))).trans HTF.out
      have bt : wr.cell? ⟨w.heap.size + 1, 0, none⟩ = some (.string t) := (World.cell?_of_block (a := ⟨w.heap.size + 1, 0, none⟩) (hS.block _ (World.block_lt_of_cell? _ _ HTT.out) (fun e => by have := HLT1.out; have e2 : gb = w.heap.size + 1 := (by simpa using e); omega))).trans HTT.out
      obtain ⟨T, F, hX⟩ : ∃ T F, moveX qs[i].1.path f t = (T, F) := ⟨_, _, rfl⟩
      have HF2 : Hid ((moveX ys[i].path f t).2 = F) := by show _ = _; rw [← eqy, hX]
      have HT2 : Hid (T = (mvR f t qs[i]).1.path) := by show T = (moveX qs[i].1.path f t).1; rw [hX]
      have HMEM : Hid (ys[i] ∈ ys) := List.getElem_mem hiy
      have hz1 : F = 0 → ∀ j (hj : j < ys.length), j < i + 1 → (moveX ys[j].path f t).2 = 0 := fun e j hj h2 => by
        rcases Nat.lt_or_ge j i with h3 | h3
        · exact hz j hj h3
        · obtain rfl : j = i := by omega
          rw [HF2.out]; exact e
      have HZ1 : Hid _ := hz1
      have HSET : Hid (∀ w5, Below wr.heap.size wr w5 → w5.cell? ⟨gb, i * 5, none⟩ = some (.string qs[i].1.path) ∧ w5.frozen? ⟨gb, i * 5, none⟩ = false ∧ Cel (fun k => w3.heap.size ≤ k) (w5.setCell ⟨gb, i * 5, none⟩ (.string T)) 5 (.slice (some ⟨gb, 0, none⟩) m c4) m (rowC ndC (mvTo f t qs (i + 1))) (some gb) ∧ Stay (fun k => some gb = some k) w4 (w5.setCell ⟨gb, i * 5, none⟩ (.string T))) := fun w5 B => by
        have hC5 := HC.out.below B
        refine ⟨bel_cell B y0, (hC5.live (i * 5) (by omega)).2, ?_, (HS.out.then_below B).then_same (Stay.setCell _ _ _ rfl)⟩
        rw [mvTo_next f t qs i hiq, HT2.out]
        refine hC5.setPath (by rw [mvTo_len]; exact hqm) i hlt _ (fun j hj => ?_)
        rw [mvTo_at f t qs i hiq]
        cases j with
        | zero => omega
        | succ j => rfl
      have CV : Hid (∀ dd os, Calls Tryz.prog 145 #[.string qs[i].1.path, .string f, .string t] (Sort.grow (redrawn wr dd) os) fun e w' => e = .returned (.tuple #[.string T, .int .i64 F]) ∧ Below (Sort.grow (redrawn wr dd) os).heap.size (Sort.grow (redrawn wr dd) os) w') := fun dd os => move_val qs[i].1.path f t T F _ hsz HPF.out HPT.out hX
      have r0 : ∀ dd os, (Sort.grow (redrawn wr dd) os).cell? ⟨gb, i * 5, none⟩ = some (.string qs[i].1.path) := fun dd os => cell_regrown y0 dd os
      have r1 : ∀ dd os, (Sort.grow (redrawn wr dd) os).cell? ⟨w.heap.size, 0, none⟩ = some (.string f) := fun dd os => cell_regrown bf dd os
      have r2 : ∀ dd os, (Sort.grow (redrawn wr dd) os).cell? ⟨w.heap.size + 1, 0, none⟩ = some (.string t) := fun dd os => cell_regrown bt dd os
      clear hC hS hz hX hz1 e2 e3 y0 hlv hsz bf bt eqy hcap hgb3; generalize qs[i].1.path = q at *
      by_cases hF0 : F = 0
      · subst hF0
        have HZ2 : Hid _ := HZ1.out rfl
        clear HZ1; go_wp2; refine wp_region_quiet_below (by kernel_rfl) (by kernel_rfl) ?_
        repeat (first | go_big_quiet_step (exact Calls.regrown_of (CV.out _ _)) | quiet_step (exact Calls.regrown_of (CV.out _ _)))
        refine wpQuiet_nil ?_
        intro _ hw'
        obtain ⟨⟨dq, osq⟩, hw''⟩ := hw'
        subst hw''
        have B5 : Hid (Below wr.heap.size wr (Sort.grow (redrawn wr dq) osq)) := below_regrown wr dq osq
        clear r0 r1 r2 CV; generalize Sort.grow (redrawn wr dq) osq = w5 at *
        obtain ⟨s0, s1, s2, s3⟩ := HSET.out w5 B5.out
        have HX : Hid _ := And.intro s2 s3
        clear s2 s3; go_wp2; go_roundw
        case rel => exact ⟨i + 1, by omega, by go_num, HX.out.1, HX.out.2, HZ2.out⟩
        case measure => simp [intOf]; omega
      · have hF4 : F = 4 := by
          have := HERR.out _ HMEM.out (by rw [HF2.out]; exact hF0)
          rw [HF2.out] at this; exact this
        subst hF4; have hE4 : E = 4 := H4.out (fun e => hF0 (by rw [← HF2.out]; exact (HOK.out e).1 _ HMEM.out))
        subst hE4; have hr : Hid (movA xs f t 4 = []) := rfl
        go_wp2; refine wp_region_quiet_below (by kernel_rfl) (by kernel_rfl) ?_
        repeat (first | go_big_quiet_step (exact Calls.regrown_of (CV.out _ _)) | quiet_step (exact Calls.regrown_of (CV.out _ _)))
        refine wpQuiet_nil ?_
        intro _ hw'
        obtain ⟨⟨dq, osq⟩, hw''⟩ := hw'
        subst hw''
        have B5 : Hid (Below wr.heap.size wr (Sort.grow (redrawn wr dq) osq)) := below_regrown wr dq osq
        clear r0 r1 r2 CV HSET; generalize Sort.grow (redrawn wr dq) osq = w5 at *
        go_wp2; go_ret2; refine ⟨by rw [hr.out]; exact TwoR.no _ _ rfl, ?_⟩
        have z := HLT0.out
        have h34 : Below w.heap.size w w4 := bel_tr cc3.out cc4.out
        exact (h34.trans (HS.out.below h34.size (fun k hk => by have := HC.out.lt.2; cases hk; omega))).trans (B5.out.mono (Nat.le_trans h34.size HS.out.size))
    · obtain rfl : i = m := by omega
      have hgd : decide ((i : Int) < (i : Int)) = false := decide_eq_false (by omega)
      have hE0 : E = 0 := by
        by_cases e : E = 0
        · exact e
        · obtain ⟨x, hx, hne⟩ := HLONG.out (H4.out e)
          obtain ⟨j, hj, rfl⟩ := List.getElem_of_mem hx
          exact absurd (hz j hj (by have := HYM.out; omega)) hne
      subst hE0; obtain ⟨_, hap, hmA, hm0⟩ := HOK.out rfl
      have HMA : Hid _ := hmA
      have HAP : Hid (Apart (ss ++ ys.map (movN f t))) := hap
      rw [mvTo_all f t qs i (by omega)] at hC
      have hML := moved_lot HL.out hC hS
      have h34 : Below w.heap.size w w4 := bel_tr cc3.out cc4.out
      have hgl : ∀ k, g = some k → w3.heap.size ≤ k := fun k hk => by rw [hk] at hC; exact hC.lt.2
      have h4r : Below w3.heap.size w4 wr := hS.below cc4.out.size hgl
      have h3r : Below w3.heap.size w3 wr := cc4.out.trans h4r
      obtain ⟨ps, gs, hps, hsL3⟩ := HX3.out.ex
      have hsL := hsL3.below h3r
      have hgs : ∀ k, gs = some k → k < w3.heap.size ∧ w.heap.size ≤ k := fun k hk => by have := hsL3.cel; rw [hk] at this; exact this.lt
      have hpl : ps.length = k := hsL.len
      have HSL : Hid (Lot w.heap.size wr a3 k c3 ps gs) := hsL
      have hSrc := src_firstC Tryz.underlying24 wideX hC (by rw [List.length_map]; exact hqm) i (Nat.le_refl _)
      rw [List.take_of_length_le (by rw [List.length_map]; omega)] at hSrc
      have HSRC : Hid (Src Tryz.prog 5 24 (.slice a4 i c4) i (rowC ndC (qs.map (mvR f t))) wr) := hSrc
      have HNEW : Hid (∀ a7 c7 w7 g7, Cel (Grow (fun k => w.heap.size ≤ k) wr w7) w7 5 (.slice a7 (k + i) c7) (k + i) (rowC ndC ps ++ rowC ndC (qs.map (mvR f t))) g7 → Stay (fun k => gs = some k) wr w7 → (∀ k, g7 = some k → gs = some k ∨ wr.heap.size ≤ k) → LX w.heap.size w7 a7 (k + i) c7 (ss ++ ys.map (movN f t)) ∧ Below w.heap.size w w7) := fun a7 c7 w7 g7 hC7 hS7 hg7 => by
        have z0 := cc3.out.size
        have z1 := h3r.size
        refine ⟨⟨ps ++ qs.map (mvR f t), g7, ?_, hsL.app (qs := qs.map (mvR f t)) (fun x hx => (hML.ok x hx).mono z0) (fun x hx k hk e => ?_) (by rw [List.length_map]; exact hqm) hC7 hS7 hg7 (by omega)⟩, ?_⟩
        · rw [List.map_append, hps, ← HQ.out, List.map_map, List.map_map]; rfl
        · have := (hML.ok x hx).blk_ge k e
          have := (hgs k hk).1
          omega
        · exact (cc3.out.trans (h3r.mono z0)).trans (hS7.below (by omega) (fun k hk => (hgs k hk).2))
      clear hC hS hz hML hgl hsL hsL3 hSrc hmA hap hlt hgs; go_wp2_with (first
        | (at_builtin; refine wpList_append_cel _ rfl _ _ 24 24 rfl 35 ti _ 5 64 Tryz.underlying24 hi1 hi2 hi3 hi4 rfl (O := fun k => w.heap.size ≤ k) _ k _ gs rfl HSL.out.cel _ i (rowC ndC (qs.map (mvR f t))) rfl HSRC.out (by unfold maxLen; omega) (by omega) ?_; intro a7 c7 w7 g7 hC7 hS7 hf7; have HX7 : Hid (LX w.heap.size w7 a7 (k + i) c7 (ss ++ ys.map (movN f t)) ∧ Below w.heap.size w w7) := HNEW.out a7 c7 w7 g7 hC7 hS7 hf7; clear hC7 hS7 hf7)
        | (go_at_call 136; refine (ordered_val HX7.out.1 (by omega) (by omega) HAP.out).mono ?_; rintro e w8 ⟨rfl, hX8, hS8⟩; have HX8 : Hid (LX w.heap.size w8 a7 (k + i) c7 (sortN (ss ++ ys.map (movN f t)))) := hX8; have HS8 : Hid (Stay (fun k => w.heap.size ≤ k) w7 w8) := hS8; clear hX8 hS8))
      go_ret2; exact ⟨⟨a7, k + i, c7, rfl, by rw [HMA.out]; exact HX8.out⟩, HX7.out.2.trans (HS8.out.below HX7.out.2.size (fun k hk => hk))⟩
theorem move_tree {a : Option Addr} {n c : Nat} {xs : NS} {w : World} (h : NL w a n xs) (f t : ByteArray) (hf : f.size ≤ maxLen) (ht : t.size ≤ maxLen) (E : Int) (hE : MovE xs f t E) :
    Calls Tryz.prog 106 #[.slice a n c, .string f, .string t] w fun e w' => TwoR w.heap.size (movA xs f t E) E e w' ∧ Below w.heap.size w w' := by
  rcases refM_of hE with ⟨h0, hR⟩ | ⟨hR, h04⟩
  · have hr : movA xs f t E = [] := if_neg h0
    rw [hr]
    exact move_bad h f t hf ht E hR h0
  · exact move_good h f t hf ht E hR hE h04
end Go.Proofs.YtdilfbfkeiaafaaGreat
