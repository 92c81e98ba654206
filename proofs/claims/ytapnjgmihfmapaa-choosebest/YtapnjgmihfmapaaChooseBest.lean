/- ChooseBest: for all numbers: the statement's function returns true; nothing that was there is changed. No condition. -/
import Derived.Test.YtapnjgmihfmapaaChsP2
import Derived.Test.YtapnjgmihfmapaaOpenAll
import Derived.BigRegion
namespace Go.Proofs.Ytapnjgmihfmapaa.chooseBest
open Go.ChangeShapes Go.WideShapes Go.ChangeAt Go.RowKit Go.Proofs.Ytapnjgmihfmapaa Go.Proofs.Ytapnjgmihfmapaa.Lgg Go.Proofs.Ytapnjgmihfmapaa.Chs
open Go.ChangeMaps (open_string shut_string)
set_option linter.unusedVariables false

theorem own : ownKnob Try.prog.godebug = none := by kernel_rfl

theorem lgRow : ∃ i, Try.prog.info? 31 = some i ∧ i.zero = some (.agg #[.int .i64 0, .slice none 0 0]) ∧ i.size = 2 ∧ i.bytes = 32 :=
  info_parts3 (show (Try.prog.info? 31).map (fun i => (i.zero, i.size, i.bytes)) = some (some (.agg #[.int .i64 0, .slice none 0 0]), 2, 32) by kernel_rfl)
theorem lit_str (w : World) (z : UInt8) : (convert 37 9 (.slice (some ⟨w.heap.size, 0, none⟩) 1 1)).run Try.prog (w.alloc (.cells #[.int .u8 (z.toNat : Int)] 5)) = .ok (.string ⟨#[z]⟩) (w.alloc (.cells #[.int .u8 (z.toNat : Int)] 5)) :=
  run_convert_bytes_back (P := Try.prog) (w.alloc (.cells #[.int .u8 (z.toNat : Int)] 5)) 37 9 5 ⟨w.heap.size, 0, none⟩ 1 [z] Try.underlying37 Try.underlying5 Try.underlying9 (fun j hj => by
    have : j = 0 := by simpa using hj
    subst this
    exact World.cell?_alloc_new w _ _ 0)

/-- Logs of the call's own, beside what was there. -/
structure Grp (w0 w : World) (a : Option Addr) (c : Nat) (xs : List Ls) (g : Option Nat) : Prop where
  cel : Cel (fun k => w0.heap.size ≤ k) w 2 (.slice a xs.length c) xs.length (rowC lsC xs) g
  each : ∀ x ∈ xs, Lie enC (fun k => g ≠ some k) w x.a x.es
  own : ∀ x ∈ xs, Own x
  room : ∀ x ∈ xs, x.es.length ≤ x.c
  bel : Below w0.heap.size w0 w
theorem Grp.below {w0 w w' : World} {a : Option Addr} {c : Nat} {xs : List Ls} {g : Option Nat} (h : Grp w0 w a c xs g) (hb : Below w.heap.size w w') : Grp w0 w' a c xs g :=
  ⟨h.cel.below hb, fun x hx => (h.each x hx).below hb, h.own, h.room, h.bel.trans (hb.mono h.bel.size)⟩
theorem own_len {x : Ls} (h : Own x) : x.es.length ≤ 20 := by
  obtain ⟨r, n, _, hn, _, e⟩ := h
  rw [e, long_len]; exact hn
theorem own_ep {x : Ls} (h : Own x) : In64 x.ep := by
  obtain ⟨r, n, hr, _, e, _⟩ := h
  rw [e]
  exact ⟨by omega, by omega⟩
theorem Grp.at {w0 w : World} {a : Option Addr} {c : Nat} {xs : List Ls} {g : Option Nat} (h : Grp w0 w a c xs g) : LsAt (fun k => w0.heap.size ≤ k) (fun k => g ≠ some k) w a xs :=
  ⟨Lie.of_cel wideL h.cel, h.each, fun x hx => own_ep (h.own x hx), fun x hx => ⟨h.room x hx, by have := own_len (h.own x hx); omega⟩⟩

theorem grp_app {w0 wr W w7 : World} {a a7 xa : Option Addr} {c c7 xc m n r : Nat} {xs : List Ls} {g g7 xg : Option Nat} (hG : Grp w0 wr a c xs g) (hm : xs.length = m) (hr : r < 4) (hn : n ≤ 20) (hb : Below wr.heap.size wr W) (hC : Cel (fun q => wr.heap.size ≤ q) W 2 (.slice xa n xc) n (rowC enC (longE (dT r) n)) xg)
    (hC7 : Cel (Grow (fun k => w0.heap.size ≤ k) W w7) w7 2 (.slice a7 (m + 1) c7) (m + 1) (rowC lsC xs ++ [.int .i64 (1 + (r : Int)), .slice xa n xc]) g7) (hS7 : Stay (fun k => g = some k) W w7) (hg7 : ∀ k, g7 = some k → g = some k ∨ W.heap.size ≤ k) :
    Grp w0 w7 a7 c7 (xs ++ [⟨1 + (r : Int), xa, xc, longE (dT r) n⟩]) g7 := by
  have e1 : rowC lsC xs ++ [.int .i64 (1 + (r : Int)), .slice xa n xc] = rowC lsC (xs ++ [⟨1 + (r : Int), xa, xc, longE (dT r) n⟩]) := by
    rw [rowC_app, rowC_one]
    show _ = _ ++ ([.int .i64 (1 + (r : Int)), .slice xa (longE (dT r) n).length xc] : List Value)
    rw [long_len]
  have e2 : (xs ++ [⟨1 + (r : Int), xa, xc, longE (dT r) n⟩] : List Ls).length = m + 1 := by rw [List.length_append, hm]; rfl
  rw [e1, ← e2] at hC7
  have hbW : Below w0.heap.size w0 W := hG.bel.trans (hb.mono hG.bel.size)
  have hgl : ∀ k, g = some k → k < wr.heap.size ∧ w0.heap.size ≤ k := fun k hk => by
    have := hG.cel
    rw [hk] at this
    exact this.lt
  have step : ∀ {xa' : Option Addr} {es : List En}, Lie enC (fun k => g ≠ some k) W xa' es → Lie enC (fun k => g7 ≠ some k) w7 xa' es := fun hl => by
    have h1 : Lie enC (fun k => g ≠ some k ∧ g7 ≠ some k) W _ _ := hl.mono fun k hk hlt => ⟨hk, fun e => by
      rcases hg7 k e with h | h
      · exact hk h
      · omega⟩
    exact (h1.stay hS7 (fun k hk => hk.1)).mono (fun k hk _ => hk.2)
  refine ⟨hC7.stay (Nat.le_refl _) (fun _ _ => rfl) (fun k hk => hk.elim id (fun e => Nat.le_trans hbW.size e.1)), fun x hx => ?_, fun x hx => ?_, fun x hx => ?_, hbW.trans (hS7.below hbW.size (fun k hk => (hgl k hk).2))⟩
  · rcases List.mem_append.1 hx with hx | hx
    · exact step ((hG.each x hx).below hb)
    · rw [List.mem_singleton.1 hx]
      refine step ?_
      have hL : Lie enC (fun q => wr.heap.size ≤ q) W xa (longE (dT r) n) := by
        have hC' := hC
        have e : n = (longE (dT r) n).length := (long_len _ _).symm
        refine ⟨?_, fun hp => ?_⟩
        · rw [long_len]; unfold maxLen; omega
        · rw [long_len] at hp
          obtain ⟨q, rfl, rfl⟩ := hC.at2 hp
          exact ⟨q, 0, rfl, hC.lt.2, hC.lt.1, fun j u hu => by
            obtain ⟨hj, rfl⟩ := List.getElem?_eq_some_iff.1 hu
            rw [Nat.zero_add]; exact hC.cell j hj⟩
      exact hL.mono fun k hk _ e => by have := hgl k e; omega
  · rcases List.mem_append.1 hx with hx | hx
    · exact hG.own x hx
    · rw [List.mem_singleton.1 hx]; exact ⟨r, n, hr, hn, rfl, rfl⟩
  · rcases List.mem_append.1 hx with hx | hx
    · exact hG.room x hx
    · rw [List.mem_singleton.1 hx]
      show (longE (dT r) n).length ≤ xc
      rw [long_len]; exact hC.cap2.1

theorem src_lg (W : World) (x : Int) (xa : Option Addr) (n xc : Nat) : Src Try.prog 2 22 (.slice (some ⟨W.heap.size, 0, none⟩) 1 1) 1 [.int .i64 x, .slice xa n xc] (W.alloc (.cells #[.int .i64 x, .slice xa n xc] 31)) := by
  refine Src.ofSlice _ Try.underlying22 ⟨W.heap.size, 0, none⟩ 1 1 _ (by rfl) (fun j u hu => ?_) (fun u hu => ?_)
  · rw [Addr.add_lit, Nat.zero_add, World.cell?_alloc_new W _ _ j]
    simpa using hu
  · simp at hu
    rcases hu with rfl | rfl <;> rfl

theorem bel_trB {w a b : World} (h : Below w.heap.size w a) (k : Below a.heap.size a b) : Below w.heap.size w b := h.trans (k.mono h.size)

set_option maxRecDepth 100000 in
set_option maxHeartbeats 8000000 in
theorem walk_b (a0 : Option Addr) (b0 off0 cap0 n0 : Nat) (us : List Int) (a1 : Option Addr) (b1 off1 cap1 n1 : Nat) (vs : List Int) (need : Int) (w : World) (h0 : us.length = n0) (h1 : vs.length = n1) (hI0 : Ints w .i64 a0 b0 off0 us) (hI1 : Ints w .i64 a1 b1 off1 vs) (hl0 : n0 ≤ maxLen) (hl1 : n1 ≤ maxLen) (hz0 : ∀ k ∈ us, In64 k) (hz1 : ∀ k ∈ vs, In64 k) (hneed : In64 need) :
    Calls Try.prog 4 #[.slice a0 n0 cap0, .slice a1 n1 cap1, .int .i64 need] w fun e w' => e = .returned (.bool true) ∧ Below w.heap.size w w' := by
  unfold maxLen at hl0 hl1
  have HI0 : Hid (Ints w .i64 a0 b0 off0 us) := hI0
  have HI1 : Hid (Ints w .i64 a1 b1 off1 vs) := hI1
  have HN0 : Hid (us.length = n0) := h0
  have HN1 : Hid (vs.length = n1) := h1
  have HZ0 : Hid (∀ k ∈ us, In64 k) := hz0
  have HZ1 : Hid (∀ k ∈ vs, In64 k) := hz1
  have HND : Hid (In64 need) := hneed
  unfold In64 at hneed
  clear hI0 hI1 h0 h1 hz0 hz1
  go_enter Try.func4, Try.ntmps4
  go_wp2_with (go_at_call 7; refine (examples_val _).mono ?_; rintro e w1 ⟨rfl, c1⟩; have B1 : Hid (Below w.heap.size w w1) := c1; clear c1)
  go_loopw [8, 9, 10, 11, 12, 13] (fun v8 v9 _ _ _ _ wr => ∃ (i : Nat) (a : Option Addr) (c : Nat) (xs : List Ls) (g : Option Nat) (m : Nat), i ≤ 9 ∧ v9 = .int .i64 i ∧ v8 = .slice a m c ∧ m ≤ 9 ∧ m = i ∧ Hid (xs.length = m) ∧ Hid (Grp w wr a c xs g)) (fun _ v9 _ _ _ _ _ => 9 - (intOf v9).toNat)
  case atStart => exact ⟨0, none, 0, [], none, 0, by omega, rfl, rfl, by omega, rfl, rfl, ⟨.nil rfl rfl rfl, fun x hx => (by cases hx), fun x hx => (by cases hx), fun x hx => (by cases hx), B1.out⟩⟩
  case round =>
    obtain ⟨i, a, c, xs, g, m, hi, rfl, rfl, hm9, rfl, HXL, HG⟩ := hrel
    by_cases hlt : m < n0 ∧ m < n1 ∧ m < 9
    · obtain ⟨wo, rfl⟩ : ∃ wo, wo = wr := ⟨_, rfl⟩
      obtain ⟨hlt0, hlt1, hlt9⟩ := hlt
      have hm0 : m < us.length := by rw [HN0.out]; exact hlt0
      have hm1 : m < vs.length := by rw [HN1.out]; exact hlt1
      obtain rfl := HI0.out.addr (by omega)
      obtain rfl := HI1.out.addr (by omega)
      have q0 := (HI0.out.below HG.out.bel).cell m hm0
      have q1 := (HI1.out.below HG.out.bel).cell m hm1
      have hze := HZ0.out _ (List.getElem_mem hm0)
      have hzs := HZ1.out _ (List.getElem_mem hm1)
      unfold In64 at hze hzs
      generalize us[m] = e at *
      generalize vs[m] = s at *
      obtain ⟨ke, hke⟩ : ∃ ke : Nat, (e < 0 ∧ -(e + 1) = (ke : Int)) ∨ e = (ke : Int) := by
        by_cases h : e < 0
        · exact ⟨(-(e + 1)).toNat, .inl ⟨h, by omega⟩⟩
        · exact ⟨e.toNat, .inr (by omega)⟩
      obtain ⟨ks, hks⟩ : ∃ ks : Nat, (s < 0 ∧ -(s + 1) = (ks : Int)) ∨ s = (ks : Int) := by
        by_cases h : s < 0
        · exact ⟨(-(s + 1)).toNat, .inl ⟨h, by omega⟩⟩
        · exact ⟨s.toNat, .inr (by omega)⟩
      obtain ⟨r, hr⟩ : ∃ r, ke % 4 = r := ⟨_, rfl⟩
      have hr4 : r < 4 := by omega
      have hr1 : (ke : Int).tmod 4 = (r : Int) := by rw [Int.tmod_eq_emod_of_nonneg (by omega), ← hr]; rfl
      have hr2 : (ke : Int) % 4 = (r : Int) := by rw [← hr]; rfl
      obtain ⟨n, hn⟩ : ∃ n, ks % 21 = n := ⟨_, rfl⟩
      have hn20 : n ≤ 20 := by omega
      have hn1' : (ks : Int).tmod 21 = (n : Int) := by rw [Int.tmod_eq_emod_of_nonneg (by omega), ← hn]; rfl
      have hn2' : (ks : Int) % 21 = (n : Int) := by rw [← hn]; rfl
      obtain ⟨z, hz, hzd⟩ : ∃ z : UInt8, (z.toNat : Int) = 97 + (r : Int) ∧ dT r = ⟨#[z]⟩ := ⟨UInt8.ofNat (97 + r), by rw [UInt8.toNat_ofNat']; omega, rfl⟩
      have hcv : ∀ W : World, _ := fun W => lit_str W z
      rw [hz] at hcv
      have HZD : Hid (dT r = ⟨#[z]⟩) := hzd
      have KL : Hid (∀ W, Calls Try.prog 17 #[.int .i64 ((1 : Int) + (r : Int)), .int .i64 n] W fun e w' => LogR W.heap.size (1 + (r : Int)) (longE xT n) n e w' ∧ Below W.heap.size W w') := fun W => long_val _ n (by omega) W
      clear hr hn hzd hz B1
      rcases hke with ⟨he, hke⟩ | rfl
      all_goals rcases hks with ⟨hs, hks⟩ | rfl
      all_goals
        go_wp2_with (go_at_call 17; refine (KL.out _).mono ?_; rintro e w2 ⟨⟨xa, xc, xg, rfl, hC2⟩, c2⟩; have C2 : Hid (Cel (fun k => wo.heap.size ≤ k) w2 2 (.slice xa n xc) n (rowC enC (longE xT n)) xg) := hC2; have B2 : Hid (Below wo.heap.size wo w2) := c2; clear hC2 c2)
        have X0 : Hid ((w2.alloc (.cells #[.int .i64 (1 + (r : Int)), .slice xa n xc] 31)).cell? ⟨w2.heap.size, 0, none⟩ = some (.int .i64 (1 + (r : Int)))) := cell_new w2 #[.int .i64 (1 + (r : Int)), .slice xa n xc] 31 0
        have X1 : Hid ((w2.alloc (.cells #[.int .i64 (1 + (r : Int)), .slice xa n xc] 31)).cell? ⟨w2.heap.size, 1, none⟩ = some (.slice xa n xc)) := cell_new w2 #[.int .i64 (1 + (r : Int)), .slice xa n xc] 31 1
        have C3 : Hid (Cel (fun k => wo.heap.size ≤ k) (w2.alloc (.cells #[.int .i64 (1 + (r : Int)), .slice xa n xc] 31)) 2 (.slice xa n xc) n (rowC enC (midE xT (dT r) n 0)) xg) := by
          have := C2.out.below (bel_al w2 (.cells #[.int .i64 (1 + (r : Int)), .slice xa n xc] 31))
          rw [mid_zero]; exact this
        have XG : Hid (∀ k, xg = some k → wo.heap.size ≤ k ∧ k < w2.heap.size) := fun k hk => by
          have := C2.out
          rw [hk] at this
          exact ⟨this.lt.2, this.lt.1⟩
        have B3 : Hid (Below wo.heap.size wo (w2.alloc (.cells #[.int .i64 (1 + (r : Int)), .slice xa n xc] 31))) := bel_tr B2.out (bel_al _ _)
        have Z3 : Hid (wo.heap.size ≤ w2.heap.size) := B2.out.size
        generalize w2.alloc (.cells #[.int .i64 (1 + (r : Int)), .slice xa n xc] 31) = w3 at *
        clear C2 B2
        obtain ⟨ti, hi1, hi2, hi3, hi4⟩ := lgRow
        go_wp2
        go_loopw [13] (fun v13 w4 => ∃ k : Nat, k ≤ n ∧ v13 = .int .i64 k ∧ Hid (w4.cell? ⟨w2.heap.size, 0, none⟩ = some (.int .i64 (1 + (r : Int))) ∧ w4.cell? ⟨w2.heap.size, 1, none⟩ = some (.slice xa n xc)) ∧ Hid (Cel (fun k => wo.heap.size ≤ k) w4 2 (.slice xa n xc) n (rowC enC (midE xT (dT r) n k)) xg) ∧ Hid (Below wo.heap.size wo w4)) (fun v13 _ => n - (intOf v13).toNat)
        case atStart => exact ⟨0, by omega, rfl, ⟨X0.out, X1.out⟩, C3.out, B3.out⟩
        case round =>
          obtain ⟨k, hk, rfl, HX, HC, HB⟩ := hrel
          obtain ⟨x0, x1⟩ := HX.out
          by_cases hkn : k < n
          · have hke2 : k < (midE xT (dT r) n k).length := by rw [mid_len]; exact hkn
            obtain ⟨gb, rfl, rfl⟩ := HC.out.at2 (by omega)
            have hcap := HC.out.cap2.1
            have HC2 := HC.out.below (bel_al _ (.cells #[.int .u8 (97 + (r : Int))] 5))
            have hlv := (HC2.live (k * 2 + 1) (by omega)).2
            have hce := HC2.cell (k * 2 + 1) (by rw [rowC_len wideN, mid_len]; omega)
            have HS := set_data HC2 (mid_len _ _ _ _) k hke2 ⟨#[z]⟩
            rw [← HZD.out, mid_succ] at HS
            have HS' : Hid _ := HS
            have HGB := XG.out gb rfl
            have HGB' : Hid (wo.heap.size ≤ gb ∧ gb < w2.heap.size) := HGB
            have x1a := cell_al x1 (.cells #[.int .u8 (97 + (r : Int))] 5)
            generalize (rowC enC (midE xT (dT r) n k))[k * 2 + 1]'(by rw [rowC_len wideN, mid_len]; omega) = vv at hce
            clear HS hcap HGB HC2
            go_wp2
            go_roundw
            case rel => exact ⟨k + 1, by omega, by go_num, ⟨other (by have := HGB'.out; omega) (cell_al x0 _), other (by have := HGB'.out; omega) (cell_al x1 _)⟩, by rw [HZD.out] at HS' ⊢; exact HS'.out, Below.setCell (bel_trB HB.out (bel_al _ _)) HGB'.out.1 _⟩
            case measure => simp [intOf]; omega
          · obtain rfl : k = n := by omega
            have HCA : Hid (Cel (fun q => wo.heap.size ≤ q) wr 2 (.slice xa k xc) k (rowC enC (longE (dT r) k)) xg) := by
              have := HC.out
              rw [mid_all] at this
              exact this
            have HGC : Hid (Cel (fun q => w.heap.size ≤ q) wo 2 (.slice a m c) m (rowC lsC xs) g) := by
              have := HG.out.cel
              rw [HXL.out] at this
              exact this
            have HGN0 : Hid (∀ (a7 : Option Addr) (c7 : Nat) (w7 : World) (g7 : Option Nat), Cel (Grow (fun q => w.heap.size ≤ q) (wr.alloc (.cells #[.int .i64 (1 + (r : Int)), .slice xa k xc] 31)) w7) w7 2 (.slice a7 (m + 1) c7) (m + 1) (rowC lsC xs ++ [.int .i64 (1 + (r : Int)), .slice xa k xc]) g7 → Stay (fun q => g = some q) (wr.alloc (.cells #[.int .i64 (1 + (r : Int)), .slice xa k xc] 31)) w7 → (∀ q, g7 = some q → g = some q ∨ (wr.alloc (.cells #[.int .i64 (1 + (r : Int)), .slice xa k xc] 31)).heap.size ≤ q) → Grp w w7 a7 c7 (xs ++ [⟨1 + (r : Int), xa, xc, longE (dT r) k⟩]) g7) := fun a7 c7 w7 g7 h7 h8 h9 =>
              grp_app HG.out HXL.out hr4 hn20 (bel_trB HB.out (bel_al _ _)) (HCA.out.below (bel_al _ _)) h7 h8 h9
            clear hkn HC HX X0 X1 C3 XG B3 hcv
            go_wp2_with (at_builtin; refine wpList_append_cel _ rfl _ _ 22 22 rfl 31 ti _ 2 32 Try.underlying22 hi1 hi2 hi3 hi4 rfl (O := fun q => w.heap.size ≤ q) _ m _ g rfl (HGC.out.below (bel_trB HB.out (bel_al _ _))) _ 1 [.int .i64 (1 + (r : Int)), .slice xa k xc] rfl (src_lg wr (1 + (r : Int)) xa k xc) (by unfold maxLen; omega) (by omega) ?_; intro a7 c7 w7 g7 hC7 hS7 hg7; have HGN : Hid (Grp w w7 a7 c7 (xs ++ [⟨1 + (r : Int), xa, xc, longE (dT r) k⟩]) g7) := HGN0.out a7 c7 w7 g7 hC7 hS7 hg7; clear hC7 hS7 hg7)
            go_roundw
            case rel => exact ⟨m + 1, a7, c7, _, g7, m + 1, by omega, by go_num, rfl, by omega, rfl, by show _ = _; rw [List.length_append, HXL.out]; rfl, HGN⟩
            case measure => simp [intOf]; omega
    · obtain ⟨wo, rfl⟩ : ∃ wo, wo = wr := ⟨_, rfl⟩
      clear B1 HI0 HI1 HZ0 HZ1 HN0 HN1
      have hmi : (m : Int) ≤ 9 := by omega
      obtain ⟨N, hN⟩ : ∃ N, (max need 1).toNat = N := ⟨_, rfl⟩
      have hN1 : 1 ≤ N := by omega
      obtain ⟨es, hes⟩ : ∃ es, comT xs N = es := ⟨_, rfl⟩
      obtain ⟨m1, hm1⟩ : ∃ k, es.length = k := ⟨_, rfl⟩
      obtain ⟨B, hB⟩ : ∃ B, bestI xs m = B := ⟨_, rfl⟩
      have KC : Hid (∀ W, Below wo.heap.size wo W → Calls Try.prog 9 #[.slice a m c, .int .i64 need] W fun e w' => EnsR W.heap.size es m1 e w' ∧ Below W.heap.size W w') := fun W hb => committed_val (HG.out.at.below hb) m c HXL.out (by omega) need HND.out N hN es hes m1 hm1
      have KB : Hid (∀ W, Below wo.heap.size wo W → Calls Try.prog 13 #[.slice a m c] W fun e w' => e = .returned (.int .i64 B) ∧ Below W.heap.size W w') := fun W hb => best_val (HG.out.at.below hb) m c HXL.out (by omega) B hB
      have hg3 : n0 ≤ m ∨ (m < n0 ∧ n1 ≤ m) ∨ (m < n0 ∧ m < n1 ∧ m = 9) := by omega
      clear hlt
      by_cases hm0 : m = 0
      · subst hm0
        have hxs : xs = [] := List.length_eq_zero_iff.1 HXL.out
        have hB1 : B = -1 := by rw [← hB]; rfl
        have hz : m1 = 0 := by
          rw [← hm1, ← hes, hxs]
          rfl
        have HBL : Hid (Below w.heap.size w wo) := HG.out.bel
        subst hz hB1
        clear hB hes hm1 hN HG HXL hxs
        have hg4 : n0 = 0 ∨ (0 < n0 ∧ n1 = 0) := by omega
        clear hg3
        rcases hg4 with rfl | ⟨hg, rfl⟩
        all_goals
          go_wp2_with (first
            | (go_at_call 9; refine (KC.out _ (Below.refl _ _)).mono ?_; rintro e w5 ⟨⟨ea, ec, eg, rfl, _⟩, c5⟩; have B5 : Hid (Below wo.heap.size wo w5) := c5; clear c5)
            | (go_at_call 13; refine (KB.out _ B5.out).mono ?_; rintro e w6 ⟨rfl, c6⟩; have B6 : Hid (Below wo.heap.size wo w6) := bel_tr B5.out c6; clear c6))
          go_ret
          exact ⟨rfl, bel_trB HBL.out B6.out⟩
      have hmp : 0 < m := by omega
      have hlo := best_lt xs m
      have hpo := best_pos xs m hmp
      rw [hB] at hlo hpo
      obtain ⟨b, rfl⟩ : ∃ b : Nat, B = (b : Int) := ⟨B.toNat, by omega⟩
      have hbm : b < m := by omega
      have hbx : b < xs.length := by rw [HXL.out]; exact hbm
      have hBI : bestI xs xs.length = (b : Int) := by rw [HXL.out]; exact hB
      have hb0 : decide ((b : Int) < 0) = false := decide_eq_false (by omega)
      have HEP : Hid (∀ x ∈ xs, x.ep ≤ xs[b].ep) := best_ep hbx hBI
      have HEN : Hid (∀ x ∈ xs, x.ep = xs[b].ep → x.es.length ≤ xs[b].es.length) := best_en hbx hBI
      have HAT : Hid (∀ W, Below wo.heap.size wo W → ∃ lb lo, a = some ⟨lb, lo, none⟩ ∧ ∀ (i : Nat) (hi : i < xs.length), W.cell? ⟨lb, lo + i * 2, none⟩ = some (.int .i64 xs[i].ep) ∧ W.cell? ⟨lb, lo + i * 2 + 1, none⟩ = some (.slice xs[i].a xs[i].es.length xs[i].c)) := fun W hb => by
        obtain ⟨lb, lo, ha, hat⟩ := Lie.all wideL (HG.out.at.below hb).row (by omega)
        exact ⟨lb, lo, ha, fun i hi => ⟨hat i hi 0 _ rfl, hat i hi 1 _ rfl⟩⟩
      obtain ⟨F, hF⟩ : ∃ F, kN xs xs[b].ep 0 = F := ⟨_, rfl⟩
      have hFm : F ≤ 9 := by have := kN_le xs xs[b].ep 0; rw [HXL.out, hF] at this; omega
      have KG : Hid (¬ (F : Int) < need → ∀ W O a' c', Below wo.heap.size wo W → (∃ g', Cel O W 2 (.slice a' m1 c') m1 (rowC enC es) g') → Calls Try.prog 11 #[.slice a' m1 c', .slice xs[b].a xs[b].es.length xs[b].c] W fun e w' => e = .returned (.int .i64 m1) ∧ Below W.heap.size W w') := fun h W O a' c' hb hC => by
        have hNF : N ≤ F := by
          have h1 := kN_pos hbx
          rw [hF] at h1
          omega
        have hag := com_begins hN1 hbx hBI (by rw [hF]; exact hNF) HG.out.own
        rw [hes, hm1] at hag
        obtain ⟨g', hC⟩ := hC
        rw [← hm1] at hC
        exact agree_val (Lie.of_cel wideN hC) ((HG.out.at.below hb).each _ (List.getElem_mem hbx)) m1 _ _ _ hm1 rfl m1 hag
      have HFF : Hid (kN xs xs[b].ep 0 = F) := hF
      have HBL : Hid (Below w.heap.size w wo) := HG.out.bel
      clear hB hes hm1 hN HG hF hlo hpo hBI
      generalize hxb : xs[b] = xb at *
      have HXB : Hid (∀ h : b < xs.length, xs[b] = xb) := fun h => hxb
      clear hxb
      obtain ⟨eb, ab, cb, sb⟩ := xb
      simp only at HEP HEN KG HFF
      generalize hsb : sb.length = nb at *
      have HSB : Hid (sb.length = nb) := hsb
      clear hsb
      rcases hg3 with hg | ⟨hg, hg'⟩ | ⟨hg, hg', hm9e⟩
      · have hgd : decide ((m : Int) < (n0 : Int)) = false := decide_eq_false (by omega)
        go_wp2_with (first
          | (go_at_call 9; refine (KC.out _ (Below.refl _ _)).mono ?_; rintro e w5 ⟨⟨ea, ec, eg, rfl, hC5⟩, c5⟩; have B5 : Hid (Below wo.heap.size wo w5) := c5; have C5 : Hid (Cel (fun k => wo.heap.size ≤ k) w5 2 (.slice ea m1 ec) m1 (rowC enC es) eg) := hC5; clear c5 hC5)
          | (go_at_call 13; refine (KB.out _ B5.out).mono ?_; rintro e w6 ⟨rfl, c6⟩; have B6 : Hid (Below wo.heap.size wo w6) := bel_tr B5.out c6; have C6 : Hid (Cel (fun k => wo.heap.size ≤ k) w6 2 (.slice ea m1 ec) m1 (rowC enC es) eg) := C5.out.below c6; clear c6))
        go_loopw [16, 17] (fun v16 v17 wr => ∃ i : Nat, i ≤ m ∧ v17 = .int .i64 i ∧ v16 = .int .i64 (kN (xs.take i) eb 0) ∧ Below w6.heap.size w6 wr) (fun _ v17 _ => m - (intOf v17).toNat)
        case atStart => exact ⟨0, by omega, rfl, rfl, Below.refl _ _⟩
        case round =>
          obtain ⟨i, hi, rfl, rfl, hbl⟩ := hrel
          have B7 : Hid (Below w6.heap.size w6 wr) := hbl
          have BW : Hid (Below wo.heap.size wo wr) := bel_trB B6.out hbl
          clear hbl
          obtain ⟨lb, lo, rfl, hat⟩ := HAT.out _ BW.out
          have f0 := (hat b hbx).1
          have f1 := (hat b hbx).2
          rw [HXB.out hbx] at f0 f1
          simp only at f0 f1
          rw [HSB.out] at f1
          by_cases hlt : i < m
          · have hix : i < xs.length := by rw [HXL.out]; exact hlt
            obtain ⟨e0, e1⟩ := hat i hix
            have HX : Hid _ := kN_succ hix eb 0
            have hep := HEP.out _ (List.getElem_mem hix)
            have hen := HEN.out _ (List.getElem_mem hix)
            have hle := kN_le (xs.take i) eb 0
            rw [List.length_take] at hle
            clear hat
            generalize xs[i] = x at *
            obtain ⟨ex, ax, cx, sx⟩ := x
            simp only at e0 e1 HX hep hen
            generalize sx.length = nx at *
            generalize kN (xs.take i) eb 0 = K at *
            have hK : K ≤ 9 := by omega
            clear hle
            by_cases h1 : ex = eb
            · subst h1
              have hnx : nx ≤ nb := hen rfl
              have hgb : decide (ex > ex) = false := decide_eq_false (by omega)
              have hlb : decide ((nx : Int) > (nb : Int)) = false := decide_eq_false (by omega)
              clear hen hep
              go_wp2
              go_quiet (fail)
              go_wp2
              go_quiet (fail)
              go_wp2
              go_roundw
              case rel => exact ⟨i + 1, by omega, by go_num, by rw [HX.out, if_pos (by simp)]; rfl, bel_tr B7.out (bel_dr _ _)⟩
              case measure => simp [intOf]; omega
            · have h1b : decide (ex = eb) = false := decide_eq_false h1
              have h1c : (ex == eb) = false := by rw [beq_eq_false_iff_ne]; exact h1
              have hgb : decide (ex > eb) = false := decide_eq_false (by omega)
              clear hen hep
              go_wp2
              go_quiet (fail)
              go_wp2
              go_quiet (fail)
              go_wp2
              go_roundw
              case rel => exact ⟨i + 1, by omega, by go_num, by rw [HX.out, if_neg (fun h => h1 h.1)]; rfl, bel_tr B7.out (bel_dr _ _)⟩
              case measure => simp [intOf]; omega
          · obtain rfl : i = m := by omega
            have htk : xs.take i = xs := List.take_of_length_le (by rw [HXL.out]; omega)
            rw [htk, HFF.out]
            have BT : Hid (Below w.heap.size w wr) := bel_trB HBL.out BW.out
            have C7 : Hid (Cel (fun k => wo.heap.size ≤ k) wr 2 (.slice ea m1 ec) m1 (rowC enC es) eg) := C6.out.below B7.out
            clear htk hat hlt
            by_cases h9 : (F : Int) < need
            · have h9b : decide ((F : Int) < need) = true := decide_eq_true h9
              go_wp2
              go_ret
              exact ⟨rfl, BT.out⟩
            · have h9b : decide ((F : Int) < need) = false := decide_eq_false h9
              have KG2 := KG.out (by omega)
              go_wp2_with (go_at_call 11; refine (KG2 wr _ ea ec BW.out ⟨eg, C7.out⟩).mono ?_; rintro e w8 ⟨rfl, c8⟩)
              go_ret
              exact ⟨rfl, bel_tr BT.out c8⟩
      · have hgd : decide ((m : Int) < (n1 : Int)) = false := decide_eq_false (by omega)
        go_wp2_with (first
          | (go_at_call 9; refine (KC.out _ (Below.refl _ _)).mono ?_; rintro e w5 ⟨⟨ea, ec, eg, rfl, hC5⟩, c5⟩; have B5 : Hid (Below wo.heap.size wo w5) := c5; have C5 : Hid (Cel (fun k => wo.heap.size ≤ k) w5 2 (.slice ea m1 ec) m1 (rowC enC es) eg) := hC5; clear c5 hC5)
          | (go_at_call 13; refine (KB.out _ B5.out).mono ?_; rintro e w6 ⟨rfl, c6⟩; have B6 : Hid (Below wo.heap.size wo w6) := bel_tr B5.out c6; have C6 : Hid (Cel (fun k => wo.heap.size ≤ k) w6 2 (.slice ea m1 ec) m1 (rowC enC es) eg) := C5.out.below c6; clear c6))
        go_loopw [16, 17] (fun v16 v17 wr => ∃ i : Nat, i ≤ m ∧ v17 = .int .i64 i ∧ v16 = .int .i64 (kN (xs.take i) eb 0) ∧ Below w6.heap.size w6 wr) (fun _ v17 _ => m - (intOf v17).toNat)
        case atStart => exact ⟨0, by omega, rfl, rfl, Below.refl _ _⟩
        case round =>
          obtain ⟨i, hi, rfl, rfl, hbl⟩ := hrel
          have B7 : Hid (Below w6.heap.size w6 wr) := hbl
          have BW : Hid (Below wo.heap.size wo wr) := bel_trB B6.out hbl
          clear hbl
          obtain ⟨lb, lo, rfl, hat⟩ := HAT.out _ BW.out
          have f0 := (hat b hbx).1
          have f1 := (hat b hbx).2
          rw [HXB.out hbx] at f0 f1
          simp only at f0 f1
          rw [HSB.out] at f1
          by_cases hlt : i < m
          · have hix : i < xs.length := by rw [HXL.out]; exact hlt
            obtain ⟨e0, e1⟩ := hat i hix
            have HX : Hid _ := kN_succ hix eb 0
            have hep := HEP.out _ (List.getElem_mem hix)
            have hen := HEN.out _ (List.getElem_mem hix)
            have hle := kN_le (xs.take i) eb 0
            rw [List.length_take] at hle
            clear hat
            generalize xs[i] = x at *
            obtain ⟨ex, ax, cx, sx⟩ := x
            simp only at e0 e1 HX hep hen
            generalize sx.length = nx at *
            generalize kN (xs.take i) eb 0 = K at *
            have hK : K ≤ 9 := by omega
            clear hle
            by_cases h1 : ex = eb
            · subst h1
              have hnx : nx ≤ nb := hen rfl
              have hgb : decide (ex > ex) = false := decide_eq_false (by omega)
              have hlb : decide ((nx : Int) > (nb : Int)) = false := decide_eq_false (by omega)
              clear hen hep
              go_wp2
              go_quiet (fail)
              go_wp2
              go_quiet (fail)
              go_wp2
              go_roundw
              case rel => exact ⟨i + 1, by omega, by go_num, by rw [HX.out, if_pos (by simp)]; rfl, bel_tr B7.out (bel_dr _ _)⟩
              case measure => simp [intOf]; omega
            · have h1b : decide (ex = eb) = false := decide_eq_false h1
              have h1c : (ex == eb) = false := by rw [beq_eq_false_iff_ne]; exact h1
              have hgb : decide (ex > eb) = false := decide_eq_false (by omega)
              clear hen hep
              go_wp2
              go_quiet (fail)
              go_wp2
              go_quiet (fail)
              go_wp2
              go_roundw
              case rel => exact ⟨i + 1, by omega, by go_num, by rw [HX.out, if_neg (fun h => h1 h.1)]; rfl, bel_tr B7.out (bel_dr _ _)⟩
              case measure => simp [intOf]; omega
          · obtain rfl : i = m := by omega
            have htk : xs.take i = xs := List.take_of_length_le (by rw [HXL.out]; omega)
            rw [htk, HFF.out]
            have BT : Hid (Below w.heap.size w wr) := bel_trB HBL.out BW.out
            have C7 : Hid (Cel (fun k => wo.heap.size ≤ k) wr 2 (.slice ea m1 ec) m1 (rowC enC es) eg) := C6.out.below B7.out
            clear htk hat hlt
            by_cases h9 : (F : Int) < need
            · have h9b : decide ((F : Int) < need) = true := decide_eq_true h9
              go_wp2
              go_ret
              exact ⟨rfl, BT.out⟩
            · have h9b : decide ((F : Int) < need) = false := decide_eq_false h9
              have KG2 := KG.out (by omega)
              go_wp2_with (go_at_call 11; refine (KG2 wr _ ea ec BW.out ⟨eg, C7.out⟩).mono ?_; rintro e w8 ⟨rfl, c8⟩)
              go_ret
              exact ⟨rfl, bel_tr BT.out c8⟩
      · have hgd : decide ((m : Int) < 9) = false := decide_eq_false (by omega)
        clear hm9e
        go_wp2_with (first
          | (go_at_call 9; refine (KC.out _ (Below.refl _ _)).mono ?_; rintro e w5 ⟨⟨ea, ec, eg, rfl, hC5⟩, c5⟩; have B5 : Hid (Below wo.heap.size wo w5) := c5; have C5 : Hid (Cel (fun k => wo.heap.size ≤ k) w5 2 (.slice ea m1 ec) m1 (rowC enC es) eg) := hC5; clear c5 hC5)
          | (go_at_call 13; refine (KB.out _ B5.out).mono ?_; rintro e w6 ⟨rfl, c6⟩; have B6 : Hid (Below wo.heap.size wo w6) := bel_tr B5.out c6; have C6 : Hid (Cel (fun k => wo.heap.size ≤ k) w6 2 (.slice ea m1 ec) m1 (rowC enC es) eg) := C5.out.below c6; clear c6))
        go_loopw [16, 17] (fun v16 v17 wr => ∃ i : Nat, i ≤ m ∧ v17 = .int .i64 i ∧ v16 = .int .i64 (kN (xs.take i) eb 0) ∧ Below w6.heap.size w6 wr) (fun _ v17 _ => m - (intOf v17).toNat)
        case atStart => exact ⟨0, by omega, rfl, rfl, Below.refl _ _⟩
        case round =>
          obtain ⟨i, hi, rfl, rfl, hbl⟩ := hrel
          have B7 : Hid (Below w6.heap.size w6 wr) := hbl
          have BW : Hid (Below wo.heap.size wo wr) := bel_trB B6.out hbl
          clear hbl
          obtain ⟨lb, lo, rfl, hat⟩ := HAT.out _ BW.out
          have f0 := (hat b hbx).1
          have f1 := (hat b hbx).2
          rw [HXB.out hbx] at f0 f1
          simp only at f0 f1
          rw [HSB.out] at f1
          by_cases hlt : i < m
          · have hix : i < xs.length := by rw [HXL.out]; exact hlt
            obtain ⟨e0, e1⟩ := hat i hix
            have HX : Hid _ := kN_succ hix eb 0
            have hep := HEP.out _ (List.getElem_mem hix)
            have hen := HEN.out _ (List.getElem_mem hix)
            have hle := kN_le (xs.take i) eb 0
            rw [List.length_take] at hle
            clear hat
            generalize xs[i] = x at *
            obtain ⟨ex, ax, cx, sx⟩ := x
            simp only at e0 e1 HX hep hen
            generalize sx.length = nx at *
            generalize kN (xs.take i) eb 0 = K at *
            have hK : K ≤ 9 := by omega
            clear hle
            by_cases h1 : ex = eb
            · subst h1
              have hnx : nx ≤ nb := hen rfl
              have hgb : decide (ex > ex) = false := decide_eq_false (by omega)
              have hlb : decide ((nx : Int) > (nb : Int)) = false := decide_eq_false (by omega)
              clear hen hep
              go_wp2
              go_quiet (fail)
              go_wp2
              go_quiet (fail)
              go_wp2
              go_roundw
              case rel => exact ⟨i + 1, by omega, by go_num, by rw [HX.out, if_pos (by simp)]; rfl, bel_tr B7.out (bel_dr _ _)⟩
              case measure => simp [intOf]; omega
            · have h1b : decide (ex = eb) = false := decide_eq_false h1
              have h1c : (ex == eb) = false := by rw [beq_eq_false_iff_ne]; exact h1
              have hgb : decide (ex > eb) = false := decide_eq_false (by omega)
              clear hen hep
              go_wp2
              go_quiet (fail)
              go_wp2
              go_quiet (fail)
              go_wp2
              go_roundw
              case rel => exact ⟨i + 1, by omega, by go_num, by rw [HX.out, if_neg (fun h => h1 h.1)]; rfl, bel_tr B7.out (bel_dr _ _)⟩
              case measure => simp [intOf]; omega
          · obtain rfl : i = m := by omega
            have htk : xs.take i = xs := List.take_of_length_le (by rw [HXL.out]; omega)
            rw [htk, HFF.out]
            have BT : Hid (Below w.heap.size w wr) := bel_trB HBL.out BW.out
            have C7 : Hid (Cel (fun k => wo.heap.size ≤ k) wr 2 (.slice ea m1 ec) m1 (rowC enC es) eg) := C6.out.below B7.out
            clear htk hat hlt
            by_cases h9 : (F : Int) < need
            · have h9b : decide ((F : Int) < need) = true := decide_eq_true h9
              go_wp2
              go_ret
              exact ⟨rfl, BT.out⟩
            · have h9b : decide ((F : Int) < need) = false := decide_eq_false h9
              have KG2 := KG.out (by omega)
              go_wp2_with (go_at_call 11; refine (KG2 wr _ ea ec BW.out ⟨eg, C7.out⟩).mono ?_; rintro e w8 ⟨rfl, c8⟩)
              go_ret
              exact ⟨rfl, bel_tr BT.out c8⟩

theorem walk (a0 : Option Addr) (b0 off0 cap0 : Nat) (us : List Int) (a1 : Option Addr) (b1 off1 cap1 : Nat) (vs : List Int) (need : Int) (w : World) (w0 : Ints w .i64 a0 b0 off0 us ∧ us.length ≤ maxLen ∧ ∀ n ∈ us, (Lit.int .i64 n).wf = true) (w1 : Ints w .i64 a1 b1 off1 vs ∧ vs.length ≤ maxLen ∧ ∀ n ∈ vs, (Lit.int .i64 n).wf = true) (w2 : (Lit.int .i64 need).wf = true) :
    Calls Try.prog 4 #[.slice a0 us.length cap0, .slice a1 vs.length cap1, .int .i64 need] w fun e w' => e = .returned (.bool true) ∧ Below w.heap.size w w' :=
  walk_b a0 b0 off0 cap0 _ us a1 b1 off1 cap1 _ vs need w rfl rfl w0.1 w1.1 w0.2.1 w1.2.1 (fun k hk => bounds_i64 (w0.2.2 k hk)) (fun k hk => bounds_i64 (w1.2.2 k hk)) (bounds_i64 w2)

set_option maxRecDepth 100000 in
theorem lifted (os : Os) (started : os.Started) (H : Type) (enc : TypeId × Value → H) :
    ReturnsInHanded {} Try.checked os 4 .any (Rows.chooseBestSpec.pre6 enc Try.prog Try.f4 Rows.chooseBestRow.domain false) (Rows.chooseBestSpec.post enc Try.prog Try.f4 false true false false) := by
  refine returnsInHanded_of_change (C := Try.checked) own started (by kernel_rfl) Try.func4
    (ChangeSpec.witness6 (enc := enc) (C := Try.checked) false ⟨#[], #[.slice none 0 0, .slice none 0 0, .int .i64 0], []⟩ 8 (by kernel_rfl) (by kernel_rfl) (by kernel_rfl) (by kernel_rfl)) ?_
  intro W base args ds gs before hval0 hW hcnd _
  have hval : ∀ (j : Nat) t v, Try.f4.params[j]? = some t → args[j]? = some v → Value.okWide Try.prog W .any base t v := hval0
  have hW' := hW
  obtain ⟨p, q, hA0, hV, rfl, hfz, hnd⟩ := hW
  have hA : DataW.TrodAll enc Try.prog W 0 (fun _ => true) true Try.f4.params.toList args.toList ds p := hA0
  rw [Try.params4] at hA hval
  obtain ⟨v0, vs0, d0, ds0, p0, q0, hargs, rfl, rfl, h0, r0⟩ := trodAll_cons hA
  obtain ⟨v1, vs1, d1, ds1, p1, q1, rfl, rfl, rfl, h1, r1⟩ := trodAll_cons r0
  obtain ⟨v2, vs2, d2, ds2, p2, q2, rfl, rfl, rfl, h2, r2⟩ := trodAll_cons r1
  obtain ⟨rfl, rfl, rfl⟩ := trodAll_nil r2
  obtain rfl : args = #[v0, v1, v2] := by cases args; simp_all
  obtain ⟨rfl, rfl⟩ := trodVars_none hV
  obtain ⟨a0, len0, cap0, rfl⟩ := okWide_slice Try.underlying35 (hval 0 35 v0 rfl rfl)
  have k0 := h0
  have lt0 : ∀ x ∈ p0, x.block < W.heap.size := by obtain ⟨m, hm⟩ := k0; exact DataW.trod_lt m _ _ _ hm
  obtain ⟨b0, off0, ss0, rfl, w0⟩ := open_nums Try.underlying35 Try.underlying3 (by kernel_rfl) h0
  obtain ⟨a1, len1, cap1, rfl⟩ := okWide_slice Try.underlying35 (hval 1 35 v1 rfl rfl)
  have k1 := h1
  have lt1 : ∀ x ∈ p1, x.block < W.heap.size := by obtain ⟨m, hm⟩ := k1; exact DataW.trod_lt m _ _ _ hm
  obtain ⟨b1, off1, ss1, rfl, w1⟩ := open_nums Try.underlying35 Try.underlying3 (by kernel_rfl) h1
  obtain ⟨a2, rfl, rfl, rfl, w2⟩ := open_int Try.underlying3 (hval 2 3 v2 rfl rfl) h2
  clear hA0 hval0
  refine (walk a0 b0 off0 cap0 ss0 a1 b1 off1 cap1 ss1 a2 W w0 w1 w2).mono fun e W' ⟨he, bel⟩ => ?_
  subst he
  exact ⟨_, rfl, _, _, _, [], _, [], hW', trodAll_mk1 (shut_bool Try.underlying4 _), (trodAll_cons_mk (Below.trod laidOut (by kernel_rfl) (of_decide_eq_true (by kernel_rfl)) k0 bel lt0) (trodAll_cons_mk (Below.trod laidOut (by kernel_rfl) (of_decide_eq_true (by kernel_rfl)) k1 bel lt1) (trodAll_cons_mk (shut_int Try.underlying3 w2) trodAll_mk0))), rfl, bel.frame _, fun h => by cases h⟩

theorem over : Rows.chooseBestRow.holds Try.pinned (OpenSpec.ofChange Rows.chooseBestSpec) :=
  OpenClaim.holds_of_wide 4 Try.f4 rfl rfl rfl rfl rfl rfl rfl ⟨rfl, rfl, rfl, rfl, rfl⟩ rfl rfl rfl rfl rfl (by kernel_rfl) Try.func4 (by kernel_rfl)
    (of_decide_eq_true (by kernel_rfl)) (by unfold Func.isWrapper; first | (rw [if_pos (by decide +kernel)]; kernel_rfl) | (rw [if_neg (by decide +kernel)]; exact ⟨rfl, rfl⟩))
    (fun os started H enc _ => lifted os started H enc)
end Go.Proofs.Ytapnjgmihfmapaa.chooseBest

namespace Go.Proofs.Ytapnjgmihfmapaa
/-- The statement. -/
theorem chooseBest_holds : Rows.ChooseBestSaid := chooseBest.over
#print axioms chooseBest_holds
end Go.Proofs.Ytapnjgmihfmapaa
