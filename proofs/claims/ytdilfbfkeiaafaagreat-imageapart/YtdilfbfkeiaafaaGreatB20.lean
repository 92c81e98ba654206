/- Part 20 of the proof: TreeF6, TreeF7, TreeF8, TreeF9, TreeN. -/
import Derived.Test.YtdilfbfkeiaafaaGreatB14
import Derived.Test.YtdilfbfkeiaafaaGreatB19
set_option maxRecDepth 100000
set_option maxHeartbeats 8000000
namespace Go.Proofs.YtdilfbfkeiaafaaGreat
open Go.RowKit
theorem Lot.app {base : Nat} {w w' : World} {a a' : Option Addr} {n c m c' : Nat} {ps qs : List NR} {g g' : Option Nat} (h : Lot base w a n c ps g) (hq : ∀ x ∈ qs, Free base w x) (hqg : ∀ x ∈ qs, ∀ k, g = some k → x.2.blk ≠ some k) (hm : qs.length = m)
    (hC : Cel (Grow (fun k => base ≤ k) w w') w' 5 (.slice a' (n + m) c') (n + m) (rowC ndC ps ++ rowC ndC qs) g') (hS : Stay (fun k => g = some k) w w') (hg : ∀ k, g' = some k → g = some k ∨ w.heap.size ≤ k) (hB : base ≤ w.heap.size) : Lot base w' a' (n + m) c' (ps ++ qs) g' := by
  have hall : ∀ x ∈ ps ++ qs, Free base w x ∧ ∀ k, g = some k → x.2.blk ≠ some k := fun x hx => by
    rcases List.mem_append.1 hx with hx | hx
    · exact ⟨h.ok x hx, h.ap x hx⟩
    · exact ⟨hq x hx, hqg x hx⟩
  refine ⟨?_, by rw [List.length_append, h.len, hm], fun x hx => ?_, fun x hx k hk => ?_⟩
  · rw [rowC_app]; exact grow_base hB (fun k hk => hk) hC
  · exact Stay.free (hall x hx).1 hS (fun k hk e => (hall x hx).2 k e hk)
  · rcases hg k hk with e | e
    · exact (hall x hx).2 k e
    · intro e2
      have := (hall x hx).1.ok.bs.lt k e2
      omega
theorem src_new5 (w : World) (x : NR) : Src Tryz.prog 5 24 (.slice (some ⟨w.heap.size, 0, none⟩) 1 1) 1 (rowC ndC [x]) (w.alloc (.cells #[.string x.1.path, .bool x.1.dir, .int .i64 x.1.quota, .slice x.2.a x.2.n x.2.c, .int .i64 x.1.wr] 35)) := by
  refine Src.ofSlice _ Tryz.underlying24 ⟨w.heap.size, 0, none⟩ 1 1 _ (by rw [rowC_len wideX]; simp) (fun j u hu => ?_) (rowC_oneCell wideX _)
  rw [Addr.add_lit, Nat.zero_add]
  have e := World.cell?_alloc_new w #[.string x.1.path, .bool x.1.dir, .int .i64 x.1.quota, .slice x.2.a x.2.n x.2.c, .int .i64 x.1.wr] 35 j
  refine e.trans ?_
  rw [rowC_one] at hu
  show (List.toArray (ndC x))[j]? = some u
  rw [List.getElem?_toArray]; exact hu
structure ListR (base : Nat) (xs : NS) (n : Nat) (e : Ending) (w' : World) : Prop where
  ex : ∃ a c, e = .returned (.slice a n c) ∧ LX base w' a n c xs
theorem filter_take {α : Type} (f : α → Bool) (l : List α) (i : Nat) (hi : i < l.length) : (l.take (i + 1)).filter f = (l.take i).filter f ++ (if f l[i] then [l[i]] else []) := by
  rw [List.take_succ_eq_append_getElem hi, List.filter_append]
  congr 1
  by_cases h : f l[i] = true <;> simp [h]
theorem chosen_val {a : Option Addr} {n c : Nat} {xs : NS} {w : World} (h : NL w a n xs) (hn60 : n ≤ 60) (h8 : ∀ x ∈ xs, x.bs.length ≤ 8) (F : Nat) (cap : Array Value) (f : Nd → Bool) (eg : ∀ args w, (callFunc F args).run Tryz.prog w = .ok (.enter F args) w)
    (hw : ∀ W (x : NR), Below w.heap.size w W → NdOk W x → Calls Tryz.prog F (#[ndV x] ++ cap) W fun e w' => e = .returned (.bool (f x.1)) ∧ Below W.heap.size W w') (ys : NS) (hy : xs.filter f = ys) (m : Nat) (hm : ys.length = m) :
    Calls Tryz.prog 103 #[.slice a n c, .func (.func F) #[] cap] w fun e w' => ListR w.heap.size ys m e w' ∧ Below w.heap.size w w' := by
  obtain ⟨ti, hi1, hi2, hi3, hi4⟩ := ndRow
  obtain ⟨b, off, ps, k1, k2, k3⟩ := h.ex
  have HK : Hid (Nds w a b off ps) := k3
  have HP : Hid (ps.length = n) := by show ps.length = n; rw [← k2, ← k1, List.length_map]
  have HM : Hid (ps.map (·.1) = xs) := k1
  have H8 : Hid (∀ x ∈ xs, x.bs.length ≤ 8) := h8
  have HW : Hid (∀ W (x : NR), Below w.heap.size w W → NdOk W x → Calls Tryz.prog F (#[ndV x] ++ cap) W fun e w' => e = .returned (.bool (f x.1)) ∧ Below W.heap.size W w') := hw
  have HY : Hid (xs.filter f = ys) := hy
  have HMM : Hid (ys.length = m) := hm
  clear h k1 k2 k3 h8 hw hy hm; go_enter Tryz.func103, Tryz.ntmps103; go_wp2; go_loopw [5, 7, 10] (fun v5 _ v10 wr => ∃ (i : Nat) (fa : Option Addr) (fn fc : Nat) (qs : List NR) (g : Option Nat), i ≤ n ∧ v10 = .int .i64 i ∧ v5 = .slice fa fn fc ∧ Lot w.heap.size wr fa fn fc qs g ∧ qs.map (·.1) = (xs.take i).filter f ∧ Below w.heap.size w wr) (fun _ _ v10 _ => n - (intOf v10).toNat)
  case atStart => exact ⟨0, none, 0, 0, [], none, by omega, rfl, rfl, ⟨.nil rfl rfl rfl, rfl, fun x hx => (by cases hx), fun x hx => (by cases hx)⟩, rfl, Below.refl _ _⟩
  case round =>
    obtain ⟨i, fa, fn, fc, qs, g, hi, rfl, rfl, hL, hq, hb⟩ := hrel
    have HB : Hid (Below w.heap.size w wr) := hb
    have HL : Hid (Lot w.heap.size wr fa fn fc qs g) := hL
    have HQ : Hid (qs.map (·.1) = (xs.take i).filter f) := hq
    by_cases hlt : i < n
    · have hip : i < ps.length := by rw [HP.out]; exact hlt
      have hix : i < xs.length := by rw [← HM.out, List.length_map]; exact hip
      have hK := HK.out.below hb
      obtain ⟨e0, e1, e2, e3, e4⟩ := hK.at hip
      obtain rfl := hK.addr (by omega)
      have hok := hK.ok _ (List.getElem_mem hip)
      have exi : ps[i].1 = xs[i] := by
        have := HM.out
        subst this; simp
      have hFT := filter_take f xs i hix
      rw [← exi] at hFT
      have HFT : Hid _ := hFT
      have h8i : ps[i].2.n ≤ 8 := by
        rw [← hok.bs.len, exi]
        exact H8.out _ (List.getElem_mem hix)
      have hfn : fn ≤ 60 := by
        have h1 := hL.len
        have h2 : qs.length = ((xs.take i).filter f).length := by rw [← hq, List.length_map]
        have h3 := List.length_filter_le f (xs.take i)
        rw [List.length_take] at h3
        omega
      have CW : Hid (∀ o v, f ps[i].1 = v → Calls Tryz.prog F (#[ndV ps[i]] ++ cap) (wr.alloc o) fun e w' => e = .returned (.bool v) ∧ Below (wr.alloc o).heap.size (wr.alloc o) w') := fun o v hv => by rw [← hv]; exact HW.out _ ps[i] (HB.out.trans ((bel_al wr o).mono HB.out.size)) (hok.below (bel_al _ _))
      have CC : Hid (∀ W, Below wr.heap.size wr W → Calls Tryz.prog 137 #[ndV ps[i]] W fun e w' => CopyR W.heap.size ps[i].1 e w' ∧ Below W.heap.size W w') := fun W hb => copied_val ps[i] W (hok.below hb) (by omega)
      clear hb hL hq hok exi hFT hix h8i hK; generalize ps[i] = x at *
      obtain ⟨⟨p, d, q, bs, wb⟩, ⟨sa, sn, sc⟩⟩ := x
      unfold ndV at CW CC; simp only at e0 e1 e2 e3 e4 CW CC HFT
      have hst := run_store_str
      have hst2 := sto2
      cases hf : f ⟨p, d, q, bs, wb⟩ with
      | false =>
        have HF : Hid _ := hf
        clear hf; go_wp2_with (refine (CW.out _ false HF.out).mono ?_; rintro e w1 ⟨rfl, c1⟩)
        have B1 : Hid (Below wr.heap.size wr w1) := bel_tr (bel_al _ _) c1
        go_roundw
        case rel => exact ⟨i + 1, fa, fn, fc, qs, g, by omega, by go_num, rfl, HL.out.below B1.out, by rw [HFT.out, HF.out, HQ.out]; simp, HB.out.trans (B1.out.mono HB.out.size)⟩
        case measure => simp [intOf]; omega
      | true =>
        have HF : Hid _ := hf
        clear hf; have HAP : Hid (∀ w1 w2 (s : RS) o a2 c2 w4 g4, Below wr.heap.size wr w1 → Free w1.heap.size w2 (⟨p, d, q, bs, wb⟩, s) → Below w1.heap.size w1 w2 → Cel (Grow (fun k => w.heap.size ≤ k) (w2.alloc o) w4) w4 5 (.slice a2 (fn + 1) c2) (fn + 1) (rowC ndC qs ++ rowC ndC [(⟨p, d, q, bs, wb⟩, s)]) g4 → Stay (fun k => g = some k) (w2.alloc o) w4 → (∀ k, g4 = some k → g = some k ∨ (w2.alloc o).heap.size ≤ k) → Lot w.heap.size w4 a2 (fn + 1) c2 (qs ++ [(⟨p, d, q, bs, wb⟩, s)]) g4 ∧ Below w.heap.size w w4) := fun w1 w2 s o a2 c2 w4 g4 B1 hF B2 hC hS hg => by
          have B3 : Below wr.heap.size wr (w2.alloc o) := bel_tr (bel_tr B1 B2) (bel_al _ _)
          have z0 := HB.out.size
          have z1 := B1.size
          have z2 := B2.size
          have hge : ∀ k, g = some k → k < wr.heap.size ∧ w.heap.size ≤ k := fun k hk => by have := HL.out.cel; rw [hk] at this; exact this.lt
          have hF2 := hF.below (bel_al w2 o)
          refine ⟨(HL.out.below B3).app (qs := [(⟨p, d, q, bs, wb⟩, s)]) (fun x hx => ?_) (fun x hx k hk e => ?_) rfl hC hS hg (by simp; omega), ?_⟩
          · rw [List.mem_singleton.1 hx]; exact hF2.mono (by omega)
          · rw [List.mem_singleton.1 hx] at e
            have := hF2.blk_ge k e
            have := (hge k hk).1
            omega
          · exact (HB.out.trans (B3.mono (by omega))).trans (hS.below (by simp; omega) (fun k hk => (hge k hk).2))
        go_wp2_with (first
          | (go_at_fn F; refine (CW.out _ true HF.out).mono ?_; rintro e w1 ⟨rfl, c1⟩; have B1 : Hid (Below wr.heap.size wr w1) := bel_tr (bel_al _ _) c1; have y0 := bel_cell c1 (World.cell?_alloc_new wr _ _ 0); have y1 := bel_cell c1 (World.cell?_alloc_new wr _ _ 1); have y2 := bel_cell c1 (World.cell?_alloc_new wr _ _ 2); have y3 := bel_cell c1 (World.cell?_alloc_new wr _ _ 3); have y4 := bel_cell c1 (World.cell?_alloc_new wr _ _ 4); clear c1)
          | (go_at_call 137; refine (CC.out _ B1.out).mono ?_; rintro e w2 ⟨⟨s, rfl, hF⟩, c2⟩; have HF2 : Hid (Free w1.heap.size w2 (⟨p, d, q, bs, wb⟩, s)) := hF; have B2 : Hid (Below w1.heap.size w1 w2) := c2; clear hF c2; unfold ndV; simp only)
          | (at_builtin; refine wpList_append_cel _ rfl _ _ 24 24 rfl 35 ti _ 5 64 Tryz.underlying24 hi1 hi2 hi3 hi4 rfl (O := fun k => w.heap.size ≤ k) _ fn _ g rfl ((HL.out.below (bel_tr (bel_tr B1.out B2.out) (bel_al _ _))).cel) _ 1 (rowC ndC [(⟨p, d, q, bs, wb⟩, s)]) rfl (src_new5 w2 (⟨p, d, q, bs, wb⟩, s)) (by unfold maxLen; omega) (by omega) ?_; intro a5 c5 w5 g5 hC5 hS5 hf5; have HX : Hid _ := HAP.out w1 w2 s _ a5 c5 w5 g5 B1.out HF2.out B2.out hC5 hS5 hf5; clear hC5 hS5 hf5))
        go_roundw
        case rel => exact ⟨i + 1, a5, fn + 1, c5, qs ++ [(⟨p, d, q, bs, wb⟩, s)], g5, by omega, by go_num, rfl, HX.out.1, by rw [List.map_append, HFT.out, HF.out, HQ.out]; simp, HX.out.2⟩
        case measure => simp [intOf]; omega
    · obtain rfl : i = n := by omega
      have hgd : decide ((i : Int) < (i : Int)) = false := decide_eq_false (by omega)
      have hfm : fn = m := by
        have h1 := hL.len
        have h2 : qs.length = ys.length := by
          rw [← List.length_map (f := (·.1)), hq, List.take_of_length_le (by rw [← HM.out, List.length_map, HP.out]; omega), HY.out]
        have := HMM.out
        omega
      subst hfm; have HX : Hid (LX w.heap.size wr fa fn fc ys) := ⟨qs, g, by rw [hq, List.take_of_length_le (by rw [← HM.out, List.length_map, HP.out]; omega), HY.out], hL⟩
      clear hb hL hq hlt; go_wp2; go_ret; exact ⟨⟨fa, fc, rfl, HX.out⟩, HB.out⟩
theorem find_neg {xs : NS} {p : ByteArray} (h : at? xs p = none) : findI xs p = -1 := by unfold findI; rw [h]
theorem find_pos {xs : NS} {p : ByteArray} (h : at? xs p ≠ none) : ∃ i : Nat, findI xs p = (i : Int) ∧ i < xs.length := by
  cases e : at? xs p with
  | none => exact absurd e h
  | some i => exact ⟨i, by unfold findI; rw [e], (at_some e).1⟩
theorem remove1_val (p : ByteArray) (hp : p.size ≤ maxLen) (T : Nat) (w : World) (hT : w.cell? ⟨T, 0, none⟩ = some (.string p)) (x : NR) (hx : NdOk w x) :
    Calls Tryz.prog 104 #[ndV x, .pointer (some ⟨T, 0, none⟩)] w fun e w' => e = .returned (.bool (!underB p x.1.path)) ∧ Below w.heap.size w w' := by
  have HS : Hid (x.1.path.size ≤ maxLen) := hx.small
  have HP : Hid (p.size ≤ maxLen) := hp
  obtain ⟨⟨q, d, qu, bs, wr⟩, ⟨a, n, c⟩⟩ := x
  have hTa := cell_al hT
  unfold ndV; simp only at HS
  obtain ⟨u, hu⟩ : ∃ u, underB p q = u := ⟨_, rfl⟩
  have HU : Hid (underB p q = u) := hu
  simp only [hu]
  clear hT hx hp hu; go_enter Tryz.func104, Tryz.ntmps104; go_wp2_with (refine (under_val p q u _ HP.out HS.out HU.out).mono ?_; rintro e w1 ⟨rfl, c1⟩)
  go_ret; exact ⟨rfl, bel_tr (bel_al _ _) c1⟩
theorem move1_val (p : ByteArray) (hp : p.size ≤ maxLen) (T : Nat) (w : World) (hT : w.cell? ⟨T, 0, none⟩ = some (.string p)) (x : NR) (hx : NdOk w x) :
    Calls Tryz.prog 143 #[ndV x, .pointer (some ⟨T, 0, none⟩)] w fun e w' => e = .returned (.bool (goesB p x.1)) ∧ Below w.heap.size w w' := by
  have HS : Hid (x.1.path.size ≤ maxLen) := hx.small
  have HP : Hid (p.size ≤ maxLen) := hp
  obtain ⟨⟨q, d, qu, bs, wr⟩, ⟨a, n, c⟩⟩ := x
  have hTa := cell_al hT
  unfold ndV goesB; simp only at HS
  obtain ⟨u, hu⟩ : ∃ u, underB p q = u := ⟨_, rfl⟩
  have HU : Hid (underB p q = u) := hu
  simp only [hu]
  clear hT hx hp hu; go_enter Tryz.func143, Tryz.ntmps143; go_wp2_with (refine (under_val p q u _ HP.out HS.out HU.out).mono ?_; rintro e w1 ⟨rfl, c1⟩)
  go_ret; exact ⟨rfl, bel_tr (bel_al _ _) c1⟩
theorem move2_val (f t : ByteArray) (hf : f.size ≤ maxLen) (F T G : Nat) (w : World) (hF : w.cell? ⟨F, 0, none⟩ = some (.string f)) (hT : w.cell? ⟨T, 0, none⟩ = some (.string t)) (hG : w.cell? ⟨G, 0, none⟩ = some (.func (.func 143) #[] #[.pointer (some ⟨F, 0, none⟩)])) (x : NR) (hx : NdOk w x) :
    Calls Tryz.prog 144 #[ndV x, .pointer (some ⟨T, 0, none⟩), .pointer (some ⟨G, 0, none⟩)] w fun e w' => e = .returned (.bool (stayB f t x.1)) ∧ Below w.heap.size w w' := by
  have C1 : Hid (∀ W u, Below w.heap.size w W → goesB f x.1 = u → Calls Tryz.prog 143 #[ndV x, .pointer (some ⟨F, 0, none⟩)] W fun e w' => e = .returned (.bool u) ∧ Below W.heap.size W w') := fun W u hb hu => by rw [← hu]; exact move1_val f hf F W (bel_cell hb hF) x (hx.below hb)
  obtain ⟨⟨q, d, qu, bs, wr⟩, ⟨a, n, c⟩⟩ := x
  have hTa := cell_al hT
  have hGa := cell_al hG
  unfold ndV at *
  unfold stayB; simp only at C1
  have e0 : (q.toList == t.toList) = decide (q = t) := same_eq q t
  have e1 : (q.toList != t.toList) = !decide (q = t) := by rw [bne, e0]
  obtain ⟨v, hv⟩ : ∃ v, decide (q = t) = v := ⟨_, rfl⟩
  rw [hv] at e0 e1
  obtain ⟨u, hu⟩ : ∃ u, underB f q = u := ⟨_, rfl⟩
  have HU : Hid (goesB f ⟨q, d, qu, bs, wr⟩ = u) := hu
  simp only [hu, hv]
  clear hF hT hG hx hf hu hv; cases v with
  | true =>
    go_enter Tryz.func144, Tryz.ntmps144; go_wp2; go_ret; exact ⟨rfl, bel_al _ _⟩
  | false =>
    go_enter Tryz.func144, Tryz.ntmps144; go_wp2_with (refine (C1.out _ u (bel_al _ _) HU.out).mono ?_; rintro e w1 ⟨rfl, c1⟩)
    go_ret; exact ⟨rfl, bel_tr (bel_al _ _) c1⟩
theorem add1_val (w : World) (x : NR) : Calls Tryz.prog 135 #[ndV x] w fun e w' => e = .returned (.bool true) ∧ Below w.heap.size w w' := by
  obtain ⟨⟨q, d, qu, bs, wr⟩, ⟨a, n, c⟩⟩ := x
  unfold ndV; go_enter Tryz.func135, Tryz.ntmps135; go_wp2; go_ret
  first
    | exact ⟨rfl, bel_al _ _⟩
    | exact ⟨rfl, Below.refl _ _⟩
structure TwoR (base : Nat) (xs : NS) (E : Int) (e : Ending) (w' : World) : Prop where
  ex : ∃ a n c, e = .returned (.tuple #[.slice a n c, .int .i64 E]) ∧ LX base w' a n c xs
theorem TwoR.no (base : Nat) (E : Int) {e : Ending} {w' : World} (h : e = .returned (.tuple #[.slice none 0 0, .int .i64 E])) : TwoR base [] E e w' := ⟨none, 0, 0, h, LX.no _ _⟩
theorem remove_val {a : Option Addr} {n c : Nat} {xs : NS} {w : World} (h : NL w a n xs) (p : ByteArray) (hp : p.size ≤ maxLen) (E : Int) (hE : RemE xs p E) :
    Calls Tryz.prog 59 #[.slice a n c, .string p] w fun e w' => TwoR w.heap.size (remL xs p E) E e w' ∧ Below w.heap.size w w' := by
  have CR : Hid (∀ W u, Below w.heap.size w W → (u = true ↔ Right xs) → Calls Tryz.prog 46 #[.slice a n c] W fun e w' => e = .returned (.bool u) ∧ Below W.heap.size W w') := fun W u hb hu => right_val (h.below hb) u hu
  have CF : Hid (∀ W I, Below w.heap.size w W → findI xs p = I → Calls Tryz.prog 87 #[.slice a n c, .string p] W fun e w' => e = .returned (.int .i64 I) ∧ Below W.heap.size W w') := fun W I hb hI => find_val (h.below hb) p I hI
  have HP : Hid (p.size ≤ maxLen) := hp
  have e0 := root_eq p
  have HLEN : Hid (xs.length = n) := by obtain ⟨_, _, _, _, k2, _⟩ := h.ex; exact k2
  have HNL : Hid (NL w a n xs) := h
  have hst := run_store_str
  clear h hp; cases hE with
  | arg hn =>
    have hr : remL xs p 1 = [] := rfl
    rw [hr]
    by_cases h1 : Right xs
    · have H1 : Hid (true = true ↔ Right xs) := ⟨fun _ => h1, fun _ => rfl⟩
      cases h2 : pathB p with
      | false =>
        have H2 : Hid _ := h2
        clear h1 h2 hn e0; go_enter Tryz.func59, Tryz.ntmps59; go_wp2_with (first
          | (go_at_call 46; refine (CR.out _ true (bel_al _ _) H1.out).mono ?_; rintro e w1 ⟨rfl, c1⟩; have cc : Hid _ := bel_tr (bel_al _ _) c1; have tp := bel_cell c1 (World.cell?_alloc_new w _ _ 0); clear c1)
          | (go_at_call 102; refine (isPath_val p false _ HP.out H2.out).mono ?_; rintro e w2 ⟨rfl, c2⟩; have cc2 : Hid _ := bel_tr cc.out c2; clear c2))
        go_ret2; exact ⟨TwoR.no _ _ rfl, cc2.out⟩
      | true =>
        have H2 : Hid _ := h2
        have h3 : p = rootP := by
          by_cases h3 : p = rootP
          · exact h3
          · exact absurd ⟨h1, h2, h3⟩ hn
        rw [decide_eq_true h3] at e0
        clear h1 h2 h3 hn; go_enter Tryz.func59, Tryz.ntmps59; go_wp2_with (first
          | (go_at_call 46; refine (CR.out _ true (bel_al _ _) H1.out).mono ?_; rintro e w1 ⟨rfl, c1⟩; have cc : Hid _ := bel_tr (bel_al _ _) c1; have tp := bel_cell c1 (World.cell?_alloc_new w _ _ 0); clear c1)
          | (go_at_call 102; refine (isPath_val p true _ HP.out H2.out).mono ?_; rintro e w2 ⟨rfl, c2⟩; have cc2 : Hid _ := bel_tr cc.out c2; have tp2 := bel_cell c2 tp; clear c2))
        go_ret2; exact ⟨TwoR.no _ _ rfl, cc2.out⟩
    · have H1 : Hid (false = true ↔ Right xs) := ⟨fun e => (by cases e), fun e => absurd e h1⟩
      clear h1 hn e0; go_enter Tryz.func59, Tryz.ntmps59; go_wp2_with (go_at_call 46; refine (CR.out _ false (bel_al _ _) H1.out).mono ?_; rintro e w1 ⟨rfl, c1⟩; have cc : Hid _ := bel_tr (bel_al _ _) c1; clear c1)
      go_ret2; exact ⟨TwoR.no _ _ rfl, cc.out⟩
  | none h1 h2 h3 h4 =>
    have hr : remL xs p 5 = [] := rfl
    rw [hr]
    have H1 : Hid (true = true ↔ Right xs) := ⟨fun _ => h1, fun _ => rfl⟩
    have H2 : Hid _ := h2
    have H4 : Hid (findI xs p = -1) := find_neg h4
    rw [decide_eq_false h3] at e0
    clear h1 h2 h3 h4; go_enter Tryz.func59, Tryz.ntmps59; go_wp2_with (first
      | (go_at_call 46; refine (CR.out _ true (bel_al _ _) H1.out).mono ?_; rintro e w1 ⟨rfl, c1⟩; have cc : Hid _ := bel_tr (bel_al _ _) c1; have tp := bel_cell c1 (World.cell?_alloc_new w _ _ 0); clear c1)
      | (go_at_call 102; refine (isPath_val p true _ HP.out H2.out).mono ?_; rintro e w2 ⟨rfl, c2⟩; have cc2 : Hid _ := bel_tr cc.out c2; have tp2 := bel_cell c2 tp; clear c2)
      | (go_at_call 87; refine (CF.out _ _ cc2.out H4.out).mono ?_; rintro e w3 ⟨rfl, c3⟩; have cc3 : Hid _ := bel_tr cc2.out c3; clear c3))
    go_ret2; exact ⟨TwoR.no _ _ rfl, cc3.out⟩
  | ok h1 h2 h3 h4 =>
    have hr : remL xs p 0 = leftL xs p := rfl
    rw [hr]
    have H1 : Hid (true = true ↔ Right xs) := ⟨fun _ => h1, fun _ => rfl⟩
    have H2 : Hid _ := h2
    obtain ⟨i, h5, h6⟩ := find_pos h4
    have H5 : Hid (findI xs p = (i : Int)) := h5
    rw [decide_eq_false h3] at e0
    have hn60 : n ≤ 60 := by rw [← HLEN.out]; exact h1.few
    have H8 : Hid (∀ x ∈ xs, x.bs.length ≤ 8) := h1.few8
    obtain ⟨m, hm⟩ : ∃ m, (leftL xs p).length = m := ⟨_, rfl⟩
    have CC : Hid (∀ W, Below w.heap.size w W → W.cell? ⟨w.heap.size, 0, none⟩ = some (.string p) → Calls Tryz.prog 103 #[.slice a n c, .func (.func 104) #[] #[.pointer (some ⟨w.heap.size, 0, none⟩)]] W fun e w' => ListR W.heap.size (leftL xs p) m e w' ∧ Below W.heap.size W w') := fun W hb hc =>
      chosen_val (HNL.out.below hb) hn60 H8.out 104 #[.pointer (some ⟨w.heap.size, 0, none⟩)] (fun x => !underB p x.path) (enters_of Tryz.func104 (by kernel_rfl) rfl) (fun W2 x hb2 hx => remove1_val p HP.out w.heap.size W2 (bel_cell hb2 hc) x hx) (leftL xs p) rfl m hm
    clear h1 h2 h3 h4 h5 hm; go_enter Tryz.func59, Tryz.ntmps59; go_wp2_with (first
      | (go_at_call 46; refine (CR.out _ true (bel_al _ _) H1.out).mono ?_; rintro e w1 ⟨rfl, c1⟩; have cc : Hid _ := bel_tr (bel_al _ _) c1; have tp := bel_cell c1 (World.cell?_alloc_new w _ _ 0); clear c1)
      | (go_at_call 102; refine (isPath_val p true _ HP.out H2.out).mono ?_; rintro e w2 ⟨rfl, c2⟩; have cc2 : Hid _ := bel_tr cc.out c2; have tp2 := bel_cell c2 tp; clear c2)
      | (go_at_call 87; refine (CF.out _ _ cc2.out H5.out).mono ?_; rintro e w3 ⟨rfl, c3⟩; have cc3 : Hid _ := bel_tr cc2.out c3; have tp3 := bel_cell c3 tp2; clear c3)
      | (go_at_call 103; refine (CC.out _ cc3.out tp3).mono ?_; rintro e w4 ⟨⟨a4, c4, rfl, hX⟩, c5⟩; have cc4 : Hid _ := bel_tr cc3.out c5; have HX : Hid (LX w3.heap.size w4 a4 m c4 (leftL xs p)) := hX; clear c5 hX))
    go_ret2; exact ⟨⟨a4, m, c4, rfl, HX.out.mono cc3.out.size⟩, cc4.out⟩
def strC (s : ByteArray) : List Value := [.string s]
theorem wideS : Wide strC 1 := ⟨fun _ => rfl, fun x u hu => by simp [strC] at hu; subst hu; rfl⟩
theorem strRow : ∃ i, Tryz.prog.info? 9 = some i ∧ i.zero = some (.string ⟨#[]⟩) ∧ i.size = 1 ∧ i.bytes = 16 :=
  info_parts3 (show (Tryz.prog.info? 9).map (fun i => (i.zero, i.size, i.bytes)) = some (some (.string ⟨#[]⟩), 1, 16) by kernel_rfl)
theorem src_new1 (w : World) (s : ByteArray) : Src Tryz.prog 1 32 (.slice (some ⟨w.heap.size, 0, none⟩) 1 1) 1 (rowC strC [s]) (w.alloc (.cells #[.string s] 9)) := by
  refine Src.ofSlice _ Tryz.underlying32 ⟨w.heap.size, 0, none⟩ 1 1 _ (by rw [rowC_len wideS]; simp) (fun j u hu => ?_) (rowC_oneCell wideS _)
  rw [Addr.add_lit, Nat.zero_add]
  have e := World.cell?_alloc_new w #[.string s] 9 j
  refine e.trans ?_
  rw [rowC_one] at hu
  show (List.toArray (strC s))[j]? = some u
  rw [List.getElem?_toArray]; exact hu
theorem Cel.strs {O : Nat → Prop} {w : World} {a : Option Addr} {n c : Nat} {ss : List ByteArray} {g : Option Nat} (h : Cel O w 1 (.slice a n c) n (rowC strC ss) g) (hn : ss.length = n) (hs : ∀ s ∈ ss, s.size ≤ maxLen) : ∃ b, Strs w a b 0 ss := by
  obtain ⟨h1, h2, _⟩ := h.cap2
  by_cases h0 : n = 0
  · exact ⟨0, fun hp => by omega, fun j hj => by omega, hs, by omega⟩
  · obtain ⟨b, rfl, rfl⟩ := h.at2 (by omega)
    refine ⟨b, fun _ => rfl, fun j hj => ?_, hs, by omega⟩
    obtain ⟨b', e1, e2, e3⟩ := h.elem wideS hj hn
    cases e1
    have := e3 0 _ rfl
    rw [Nat.mul_one, Nat.add_zero] at this
    rw [Nat.zero_add]; exact this
theorem NL.dir {w : World} {a : Option Addr} {n : Nat} {xs : NS} (h : NL w a n xs) {b off : Nat} (ha : a = some ⟨b, off, none⟩) {i : Nat} (hi : i < xs.length) : w.cell? ⟨b, off + i * 5 + 1, none⟩ = some (.bool xs[i].dir) := by
  obtain ⟨b', off', ps, k1, k2, k3⟩ := h.ex
  have hip : i < ps.length := by rw [← List.length_map (f := (·.1)), k1]; exact hi
  have e := k3.addr (by omega)
  rw [ha] at e
  cases e
  have e1 := (k3.at hip).2.1
  rw [e1]
  subst k1; simp
theorem NL.addr {w : World} {a : Option Addr} {n : Nat} {xs : NS} (h : NL w a n xs) (hp : 0 < n) : ∃ b off, a = some ⟨b, off, none⟩ := by
  obtain ⟨b, off, ps, k1, k2, k3⟩ := h.ex
  exact ⟨b, off, k3.addr (by rw [← List.length_map (f := (·.1)), k1, k2]; exact hp)⟩
end Go.Proofs.YtdilfbfkeiaafaaGreat
