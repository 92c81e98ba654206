/- The contracts of tabulariumref07.Copy, tree.chosen. -/
import Derived.Test.YtlfehfajaelmlaaTreeF5
namespace Go.Proofs.Ytlfehfajaelmlaa
open Go.RowKit

theorem Blks.none0 {w : World} {s : RS} {bs : List Blk} (h : Blks w s bs) : s.a = none → s.n = 0 := fun ha => by
  rcases Nat.eq_zero_or_pos s.n with h0 | h0
  · exact h0
  · obtain ⟨b, off, e, _⟩ := h.cells h0
    rw [ha] at e; cases e

/-- Nodes are appended. -/
theorem Lot.app {base : Nat} {w w' : World} {a a' : Option Addr} {n c m c' : Nat} {ps qs : List NR} {g g' : Option Nat} (h : Lot base w a n c ps g) (hq : ∀ x ∈ qs, Free base w x) (hqg : ∀ x ∈ qs, ∀ k, g = some k → x.2.blk ≠ some k) (hm : qs.length = m)
    (hC : Cel (Grow (fun k => base ≤ k) w w') w' 5 (.slice a' (n + m) c') (n + m) (rowC ndC ps ++ rowC ndC qs) g') (hS : Stay (fun k => g = some k) w w') (hg : ∀ k, g' = some k → g = some k ∨ w.heap.size ≤ k) (hB : base ≤ w.heap.size) : Lot base w' a' (n + m) c' (ps ++ qs) g' := by
  have hall : ∀ x ∈ ps ++ qs, Free base w x ∧ ∀ k, g = some k → x.2.blk ≠ some k := fun x hx => by
    rcases List.mem_append.1 hx with hx | hx
    · exact ⟨h.ok x hx, h.ap x hx⟩
    · exact ⟨hq x hx, hqg x hx⟩
  refine ⟨?_, by rw [List.length_append, h.len, hm], fun x hx => ?_, fun x hx k hk => ?_⟩
  · rw [rowC_app]; exact grow_base hB (fun k hk => hk) hC
  · exact Stay.free (hall x hx).1 hS (fun k hk e => (hall x hx).2 k e hk)
  · rcases hg k hk with e | e
    · exact (hall x hx).2 k e
    · intro e2
      have := (hall x hx).1.ok.bs.lt k e2
      omega

theorem src_new5 (w : World) (x : NR) : Src Try.prog 5 22 (.slice (some ⟨w.heap.size, 0, none⟩) 1 1) 1 (rowC ndC [x]) (w.alloc (.cells #[.string x.1.path, .bool x.1.dir, .int .i64 x.1.quota, .slice x.2.a x.2.n x.2.c, .int .i64 x.1.wr] 35)) := by
  refine Src.ofSlice _ Try.underlying22 ⟨w.heap.size, 0, none⟩ 1 1 _ (by rw [rowC_len wideX]; simp) (fun j u hu => ?_) (rowC_oneCell wideX _)
  rw [Addr.add_lit, Nat.zero_add]
  have e := World.cell?_alloc_new w #[.string x.1.path, .bool x.1.dir, .int .i64 x.1.quota, .slice x.2.a x.2.n x.2.c, .int .i64 x.1.wr] 35 j
  refine e.trans ?_
  rw [rowC_one] at hu
  show (List.toArray (ndC x))[j]? = some u
  rw [List.getElem?_toArray]; exact hu

/-- What is there behind the copying of a node's blocks. -/
structure After (w w2 : World) (x : Nd) (s0 s : RS) : Prop where
  y0 : w2.cell? ⟨w.heap.size, 0, none⟩ = some (.string x.path)
  y1 : w2.cell? ⟨w.heap.size, 1, none⟩ = some (.bool x.dir)
  y2 : w2.cell? ⟨w.heap.size, 2, none⟩ = some (.int .i64 x.quota)
  y3 : w2.cell? ⟨w.heap.size, 3, none⟩ = some (.slice s0.a s0.n s0.c)
  y4 : w2.cell? ⟨w.heap.size, 4, none⟩ = some (.int .i64 x.wr)
  yf : ∀ j, w2.frozen? ⟨w.heap.size, j, none⟩ = false
  z0 : w2.cell? ⟨w.heap.size + 1, 0, none⟩ = some (.string ⟨#[]⟩)
  z1 : w2.cell? ⟨w.heap.size + 1, 1, none⟩ = some (.bool false)
  z2 : w2.cell? ⟨w.heap.size + 1, 2, none⟩ = some (.int .i64 0)
  z3 : w2.cell? ⟨w.heap.size + 1, 3, none⟩ = some (.slice none 0 0)
  z4 : w2.cell? ⟨w.heap.size + 1, 4, none⟩ = some (.int .i64 0)
  zf : ∀ j, w2.frozen? ⟨w.heap.size + 1, j, none⟩ = false
  big : w.heap.size + 2 ≤ w2.heap.size
  bel : Below w.heap.size w w2
  free : Free (w.heap.size + 2) w2 (x, s)

theorem after_of {w w2 : World} {x : Nd} {s0 s : RS} {t1 t2 : TypeId} (hb : Below ((w.alloc (.cells #[.string x.path, .bool x.dir, .int .i64 x.quota, .slice s0.a s0.n s0.c, .int .i64 x.wr] t1)).alloc (.cells #[.string ⟨#[]⟩, .bool false, .int .i64 0, .slice none 0 0, .int .i64 0] t2)).heap.size ((w.alloc (.cells #[.string x.path, .bool x.dir, .int .i64 x.quota, .slice s0.a s0.n s0.c, .int .i64 x.wr] t1)).alloc (.cells #[.string ⟨#[]⟩, .bool false, .int .i64 0, .slice none 0 0, .int .i64 0] t2)) w2)
    (hF : Free (w.heap.size + 2) w2 (x, s)) : After w w2 x s0 s := by
  obtain ⟨q1, q2, q3, q4, q5, q6⟩ := two_boxes hb
  exact ⟨q1 0 _ rfl, q1 1 _ rfl, q1 2 _ rfl, q1 3 _ rfl, q1 4 _ rfl, q2, q3 0 _ rfl, q3 1 _ rfl, q3 2 _ rfl, q3 3 _ rfl, q3 4 _ rfl, q4, q6, q5, hF⟩

theorem After.done {w w2 : World} {x : Nd} {s0 s : RS} (h : After w w2 x s0 s) (v v0 v1 v2 v3 v4 : Value) :
    Free w.heap.size ((((((w2.setCell ⟨w.heap.size, 3, none⟩ v).setCell ⟨w.heap.size + 1, 0, none⟩ v0).setCell ⟨w.heap.size + 1, 1, none⟩ v1).setCell ⟨w.heap.size + 1, 2, none⟩ v2).setCell ⟨w.heap.size + 1, 3, none⟩ v3).setCell ⟨w.heap.size + 1, 4, none⟩ v4) (x, s) ∧ Below w.heap.size w ((((((w2.setCell ⟨w.heap.size, 3, none⟩ v).setCell ⟨w.heap.size + 1, 0, none⟩ v0).setCell ⟨w.heap.size + 1, 1, none⟩ v1).setCell ⟨w.heap.size + 1, 2, none⟩ v2).setCell ⟨w.heap.size + 1, 3, none⟩ v3).setCell ⟨w.heap.size + 1, 4, none⟩ v4) := by
  have hbig := h.big
  have st : Stay (fun k => k = w.heap.size ∨ k = w.heap.size + 1) w2 _ := (Stay.setCell (O := fun k => k = w.heap.size ∨ k = w.heap.size + 1) w2 ⟨w.heap.size, 3, none⟩ v (.inl rfl)).then_same (Stay.five _ (w.heap.size + 1) v0 v1 v2 v3 v4 (.inr rfl))
  refine ⟨(Stay.free h.free st (fun k hk e => ?_)).mono (by omega), h.bel.trans (st.below (by omega) (fun k hk => by omega))⟩
  have := h.free.blk_ge k hk
  omega

/-- A list of nodes of the call's own is told. -/
structure ListR (base : Nat) (xs : NS) (n : Nat) (e : Ending) (w' : World) : Prop where
  ex : ∃ a c, e = .returned (.slice a n c) ∧ LX base w' a n c xs

theorem filter_take {α : Type} (f : α → Bool) (l : List α) (i : Nat) (hi : i < l.length) : (l.take (i + 1)).filter f = (l.take i).filter f ++ (if f l[i] then [l[i]] else []) := by
  rw [List.take_succ_eq_append_getElem hi, List.filter_append]
  congr 1
  by_cases h : f l[i] = true <;> simp [h]

set_option maxRecDepth 100000 in
set_option maxHeartbeats 2000000 in
theorem chosen_val {a : Option Addr} {n c : Nat} {xs : NS} {w : World} (h : NL w a n xs) (hn60 : n ≤ 60) (h8 : ∀ x ∈ xs, x.bs.length ≤ 8) (F : Nat) (cap : Array Value) (f : Nd → Bool) (eg : ∀ args w, (callFunc F args).run Try.prog w = .ok (.enter F args) w)
    (hw : ∀ W (x : NR), Below w.heap.size w W → NdOk W x → Calls Try.prog F (#[ndV x] ++ cap) W fun e w' => e = .returned (.bool (f x.1)) ∧ Below W.heap.size W w') (ys : NS) (hy : xs.filter f = ys) (m : Nat) (hm : ys.length = m) :
    Calls Try.prog 32 #[.slice a n c, .func (.func F) #[] cap] w fun e w' => ListR w.heap.size ys m e w' ∧ Below w.heap.size w w' := by
  obtain ⟨ti, hi1, hi2, hi3, hi4⟩ := ndRow
  obtain ⟨b, off, ps, k1, k2, k3⟩ := h.ex
  have HK : Hid (Nds w a b off ps) := k3
  have HP : Hid (ps.length = n) := by show ps.length = n; rw [← k2, ← k1, List.length_map]
  have HM : Hid (ps.map (·.1) = xs) := k1
  have H8 : Hid (∀ x ∈ xs, x.bs.length ≤ 8) := h8
  have HW : Hid (∀ W (x : NR), Below w.heap.size w W → NdOk W x → Calls Try.prog F (#[ndV x] ++ cap) W fun e w' => e = .returned (.bool (f x.1)) ∧ Below W.heap.size W w') := hw
  have HY : Hid (xs.filter f = ys) := hy
  have HMM : Hid (ys.length = m) := hm
  clear h k1 k2 k3 h8 hw hy hm
  go_enter Try.func32, Try.ntmps32
  go_wp2
  go_loopw [5, 7, 10] (fun v5 _ v10 wr => ∃ (i : Nat) (fa : Option Addr) (fn fc : Nat) (qs : List NR) (g : Option Nat), i ≤ n ∧ v10 = .int .i64 i ∧ v5 = .slice fa fn fc ∧ Lot w.heap.size wr fa fn fc qs g ∧ qs.map (·.1) = (xs.take i).filter f ∧ Below w.heap.size w wr) (fun _ _ v10 _ => n - (intOf v10).toNat)
  case atStart => exact ⟨0, none, 0, 0, [], none, by omega, rfl, rfl, ⟨.nil rfl rfl rfl, rfl, fun x hx => (by cases hx), fun x hx => (by cases hx)⟩, rfl, Below.refl _ _⟩
  case round =>
    obtain ⟨i, fa, fn, fc, qs, g, hi, rfl, rfl, hL, hq, hb⟩ := hrel
    have HB : Hid (Below w.heap.size w wr) := hb
    have HL : Hid (Lot w.heap.size wr fa fn fc qs g) := hL
    have HQ : Hid (qs.map (·.1) = (xs.take i).filter f) := hq
    by_cases hlt : i < n
    · have hip : i < ps.length := by rw [HP.out]; exact hlt
      have hix : i < xs.length := by rw [← HM.out, List.length_map]; exact hip
      have hK := HK.out.below hb
      obtain ⟨e0, e1, e2, e3, e4⟩ := hK.at hip
      obtain rfl := hK.addr (by omega)
      have hok := hK.ok _ (List.getElem_mem hip)
      have exi : ps[i].1 = xs[i] := by
        have := HM.out
        subst this
        simp
      have hFT := filter_take f xs i hix
      rw [← exi] at hFT
      have HFT : Hid _ := hFT
      have h8i : ps[i].2.n ≤ 8 := by
        rw [← hok.bs.len, exi]
        exact H8.out _ (List.getElem_mem hix)
      have hfn : fn ≤ 60 := by
        have h1 := hL.len
        have h2 : qs.length = ((xs.take i).filter f).length := by rw [← hq, List.length_map]
        have h3 := List.length_filter_le f (xs.take i)
        rw [List.length_take] at h3
        omega
      have CW : Hid (∀ o v, f ps[i].1 = v → Calls Try.prog F (#[ndV ps[i]] ++ cap) (wr.alloc o) fun e w' => e = .returned (.bool v) ∧ Below (wr.alloc o).heap.size (wr.alloc o) w') := fun o v hv => by rw [← hv]; exact HW.out _ ps[i] (HB.out.trans ((bel_al wr o).mono HB.out.size)) (hok.below (bel_al _ _))
      have CC : Hid (∀ W, Below wr.heap.size wr W → Calls Try.prog 35 #[ndV ps[i]] W fun e w' => CopyR W.heap.size ps[i].1 e w' ∧ Below W.heap.size W w') := fun W hb => copied_val ps[i] W (hok.below hb) (by omega)
      clear hb hL hq hok exi hFT hix h8i hK
      generalize ps[i] = x at *
      obtain ⟨⟨p, d, q, bs, wb⟩, ⟨sa, sn, sc⟩⟩ := x
      unfold ndV at CW CC
      simp only at e0 e1 e2 e3 e4 CW CC HFT
      have hst := run_store_str
      have hst2 : ∀ (w : World) (a : Addr) (x : Option Addr) (n c : Nat) (m : Mode), (store a (.slice x n c) m).run Try.prog w = stored Try.prog w a (.slice x n c) m := fun w a x n c m => run_store_any w a _ m rfl
      cases hf : f ⟨p, d, q, bs, wb⟩ with
      | false =>
        have HF : Hid _ := hf
        clear hf
        go_wp2_with (refine (CW.out _ false HF.out).mono ?_; rintro e w1 ⟨rfl, c1⟩)
        have B1 : Hid (Below wr.heap.size wr w1) := bel_tr (bel_al _ _) c1
        go_roundw
        case rel => exact ⟨i + 1, fa, fn, fc, qs, g, by omega, by go_num, rfl, HL.out.below B1.out, by rw [HFT.out, HF.out, HQ.out]; simp, HB.out.trans (B1.out.mono HB.out.size)⟩
        case measure => simp [intOf]; omega
      | true =>
        have HF : Hid _ := hf
        clear hf
        have HAP : Hid (∀ w1 w2 (s : RS) o a2 c2 w4 g4, Below wr.heap.size wr w1 → Free w1.heap.size w2 (⟨p, d, q, bs, wb⟩, s) → Below w1.heap.size w1 w2 → Cel (Grow (fun k => w.heap.size ≤ k) (w2.alloc o) w4) w4 5 (.slice a2 (fn + 1) c2) (fn + 1) (rowC ndC qs ++ rowC ndC [(⟨p, d, q, bs, wb⟩, s)]) g4 → Stay (fun k => g = some k) (w2.alloc o) w4 → (∀ k, g4 = some k → g = some k ∨ (w2.alloc o).heap.size ≤ k) → Lot w.heap.size w4 a2 (fn + 1) c2 (qs ++ [(⟨p, d, q, bs, wb⟩, s)]) g4 ∧ Below w.heap.size w w4) := fun w1 w2 s o a2 c2 w4 g4 B1 hF B2 hC hS hg => by
          have B3 : Below wr.heap.size wr (w2.alloc o) := bel_tr (bel_tr B1 B2) (bel_al _ _)
          have z0 := HB.out.size
          have z1 := B1.size
          have z2 := B2.size
          have hge : ∀ k, g = some k → k < wr.heap.size ∧ w.heap.size ≤ k := fun k hk => by have := HL.out.cel; rw [hk] at this; exact this.lt
          have hF2 := hF.below (bel_al w2 o)
          refine ⟨(HL.out.below B3).app (qs := [(⟨p, d, q, bs, wb⟩, s)]) (fun x hx => ?_) (fun x hx k hk e => ?_) rfl hC hS hg (by simp; omega), ?_⟩
          · rw [List.mem_singleton.1 hx]; exact hF2.mono (by omega)
          · rw [List.mem_singleton.1 hx] at e
            have := hF2.blk_ge k e
            have := (hge k hk).1
            omega
          · exact (HB.out.trans (B3.mono (by omega))).trans (hS.below (by simp; omega) (fun k hk => (hge k hk).2))
        go_wp2_with (first
          | (go_at_fn F; refine (CW.out _ true HF.out).mono ?_; rintro e w1 ⟨rfl, c1⟩; have B1 : Hid (Below wr.heap.size wr w1) := bel_tr (bel_al _ _) c1; have y0 := bel_cell c1 (World.cell?_alloc_new wr _ _ 0); have y1 := bel_cell c1 (World.cell?_alloc_new wr _ _ 1); have y2 := bel_cell c1 (World.cell?_alloc_new wr _ _ 2); have y3 := bel_cell c1 (World.cell?_alloc_new wr _ _ 3); have y4 := bel_cell c1 (World.cell?_alloc_new wr _ _ 4); clear c1)
          | (go_at_call 35; refine (CC.out _ B1.out).mono ?_; rintro e w2 ⟨⟨s, rfl, hF⟩, c2⟩; have HF2 : Hid (Free w1.heap.size w2 (⟨p, d, q, bs, wb⟩, s)) := hF; have B2 : Hid (Below w1.heap.size w1 w2) := c2; clear hF c2; unfold ndV; simp only)
          | (at_builtin; refine wpList_append_cel _ rfl _ _ 22 22 rfl 35 ti _ 5 64 Try.underlying22 hi1 hi2 hi3 hi4 rfl (O := fun k => w.heap.size ≤ k) _ fn _ g rfl ((HL.out.below (bel_tr (bel_tr B1.out B2.out) (bel_al _ _))).cel) _ 1 (rowC ndC [(⟨p, d, q, bs, wb⟩, s)]) rfl (src_new5 w2 (⟨p, d, q, bs, wb⟩, s)) (by unfold maxLen; omega) (by omega) ?_; intro a5 c5 w5 g5 hC5 hS5 hf5; have HX : Hid _ := HAP.out w1 w2 s _ a5 c5 w5 g5 B1.out HF2.out B2.out hC5 hS5 hf5; clear hC5 hS5 hf5))
        go_roundw
        case rel => exact ⟨i + 1, a5, fn + 1, c5, qs ++ [(⟨p, d, q, bs, wb⟩, s)], g5, by omega, by go_num, rfl, HX.out.1, by rw [List.map_append, HFT.out, HF.out, HQ.out]; simp, HX.out.2⟩
        case measure => simp [intOf]; omega
    · obtain rfl : i = n := by omega
      have hgd : decide ((i : Int) < (i : Int)) = false := decide_eq_false (by omega)
      have hfm : fn = m := by
        have h1 := hL.len
        have h2 : qs.length = ys.length := by
          rw [← List.length_map (f := (·.1)), hq, List.take_of_length_le (by rw [← HM.out, List.length_map, HP.out]; omega), HY.out]
        have := HMM.out
        omega
      subst hfm
      have HX : Hid (LX w.heap.size wr fa fn fc ys) := ⟨qs, g, by rw [hq, List.take_of_length_le (by rw [← HM.out, List.length_map, HP.out]; omega), HY.out], hL⟩
      clear hb hL hq hlt
      go_wp2
      go_ret
      exact ⟨⟨fa, fc, rfl, HX.out⟩, HB.out⟩

end Go.Proofs.Ytlfehfajaelmlaa
