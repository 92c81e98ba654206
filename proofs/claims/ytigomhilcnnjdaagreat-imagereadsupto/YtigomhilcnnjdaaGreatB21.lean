/- Part 21 of the proof: QuotaF2, QuotaF3, QuotaF4, QuotaF5, QuotaR1, QuotaR2. -/
import Derived.Test.YtigomhilcnnjdaaGreatB18
import Derived.Test.YtigomhilcnnjdaaGreatB19
import Derived.Test.YtigomhilcnnjdaaGreatB20
import Derived.Lib.MinMax

/- The contract of quota.counts. -/
namespace Go.Proofs.YtigomhilcnnjdaaGreat
open Go.RowKit

/-- The counts are told. -/
structure CountsR (base : Nat) (xs : NS) (e : Ending) (w' : World) : Prop where
  ex : ∃ b, e = .returned (.map (some b)) ∧ base ≤ b ∧ Held w' b 420 (cntL xs)

theorem turned_below {w w' : World} {b base : Nat} (h : w.mapTurned w' b) (hB : base ≤ w.heap.size) (hb : base ≤ b) : Below base w w' :=
  (Below.refl base w).grown h.grown hB (fun k hk => by cases hk; exact hb)
theorem turned_block {w w' : World} {b k : Nat} (h : w.mapTurned w' b) (hk : k < w.heap.size) (hne : k ≠ b) : w'.heap[k]? = w.heap[k]? :=
  h.grown.block k hk (by simpa using hne)

set_option maxRecDepth 100000 in
set_option maxHeartbeats 4000000 in
theorem counts_val {a : Option Addr} {n c : Nat} {xs : NS} {w : World} (h : NL w a n xs) (hr : Right xs) :
    Calls Tryz.prog 51 #[.slice a n c] w fun e w' => CountsR w.heap.size xs e w' ∧ Below w.heap.size w w' := by
  obtain ⟨b0, off, ps, k1, k2, k3⟩ := h.ex
  have HK : Hid (Nds w a b0 off ps) := k3
  have HP : Hid (ps.length = n) := by show ps.length = n; rw [← k2, ← k1, List.length_map]
  have HM : Hid (ps.map (·.1) = xs) := k1
  have HR : Hid (Right xs) := hr
  have hn60 : n ≤ 60 := by rw [← k2]; exact hr.few
  clear h k1 k2 k3 hr
  have hmm := @run_makeMap Tryz.prog
  have H0 : Hid (Held (w.alloc (.map #[] 0)) w.heap.size 0 (fun _ => 0)) := Held.new w
  go_enter Tryz.func51, Tryz.ntmps51
  go_wp2
  clear hmm
  go_loopw [5, 7, 11] (fun _ _ v wr => ∃ i : Nat, i ≤ n ∧ v = .int .i64 i ∧ Held wr w.heap.size (7 * i) (cntL (xs.take i)) ∧ Below w.heap.size w wr) (fun _ _ v _ => n - (intOf v).toNat)
  case atStart => exact ⟨0, by omega, rfl, H0.out, bel_al _ _⟩
  case round =>
    obtain ⟨i, hi, rfl, hH, hb⟩ := hrel
    have HB : Hid (Below w.heap.size w wr) := hb
    have HH : Hid (Held wr w.heap.size (7 * i) (cntL (xs.take i))) := hH
    by_cases hlt : i < n
    · have hip : i < ps.length := by rw [HP.out]; exact hlt
      have hix : i < xs.length := by rw [← HM.out, List.length_map]; exact hip
      have hK := HK.out.below hb
      obtain ⟨e0, e1, e2, e3, e4⟩ := hK.at hip
      obtain rfl := hK.addr (by omega)
      have exi : ps[i].1 = xs[i] := by
        have := HM.out
        subst this
        simp
      have hsp : splitE ps[i].1.path = 0 := by rw [exi]; exact fits_path (HR.out.fit _ (List.getElem_mem hix))
      have hcs : ∀ q, cntL (xs.take (i + 1)) q = cntL (xs.take i) q + cntT (lineL ps[i].1.path) q := fun q => by
        rw [cnt_succ hix (fits_path (HR.out.fit _ (List.getElem_mem hix))) q, exi]
      have HCS : Hid _ := hcs
      obtain ⟨m, hm⟩ : ∃ m, (lineL ps[i].1.path).length = m := ⟨_, rfl⟩
      have hm7 : m ≤ 7 := by rw [← hm]; exact line_few _
      have HLS : Hid (∀ s ∈ lineL ps[i].1.path, s.size ≤ 120) := line_small hsp
      have CL : Hid (∀ W, Calls Tryz.prog 79 #[.string ps[i].1.path] W fun e w' => TextsR W.heap.size (lineL ps[i].1.path) m e w' ∧ Below W.heap.size W w') := fun W => line_val ps[i].1.path W hsp m hm
      have HL : Hid ((lineL ps[i].1.path).length = m) := hm
      clear hb hH hK exi hcs hm hsp hix
      generalize ps[i] = x at *
      obtain ⟨⟨p, d, q, bs, wb⟩, ⟨sa, sn, sc⟩⟩ := x
      simp only at e0 e1 e2 e3 e4 CL HL HLS HCS
      generalize lineL p = L at *
      have hst := run_store_str
      have hst2 : ∀ (w : World) (a : Addr) (x : Option Addr) (n c : Nat) (m : Mode), (store a (.slice x n c) m).run Tryz.prog w = stored Tryz.prog w a (.slice x n c) m := fun w a x n c m => run_store_any w a _ m rfl
      go_wp2_with (go_at_call 79; refine (CL.out _).mono ?_; rintro e w1 ⟨⟨la, lc, lg, rfl, hC⟩, c1⟩; have HC : Hid _ := hC; have B1 : Hid (Below wr.heap.size wr w1) := bel_tr (bel_al _ _) c1; clear hC c1)
      have hC1 : Cel (fun k => w.heap.size < k) w1 1 (.slice la m lc) m (rowC strC L) lg := HC.out.stay (Nat.le_refl _) (fun _ _ => rfl) (fun k hk => by have := HH.out.lt; simp at hk; omega)
      have hH1 : Held w1 w.heap.size (7 * i) (cntL (xs.take i)) := HH.out.below B1.out
      have hB1 : Below w.heap.size w w1 := HB.out.trans (B1.out.mono HB.out.size)
      have hC2 : Hid (Cel (fun k => w.heap.size < k) w1 1 (.slice la m lc) m (rowC strC L) lg) := hC1
      have hH2 : Hid (Held w1 w.heap.size (7 * i) (cntL (xs.take i))) := hH1
      have hB2 : Hid (Below w.heap.size w w1) := hB1
      clear HC HH CL hC1 hH1 hB1 e0 e1 e2 e3 e4 HB B1 H0
      rename World => wo
      go_loopw [7, 19] (fun _ v wi => ∃ j : Nat, j ≤ m ∧ v = .int .i64 j ∧ Held wi w.heap.size (7 * i + j) (fun q => cntL (xs.take i) q + cntT (L.take j) q) ∧ Cel (fun k => w.heap.size < k) wi 1 (.slice la m lc) m (rowC strC L) lg ∧ Below w.heap.size w wi) (fun _ v _ => m - (intOf v).toNat)
      case atStart => exact ⟨0, by omega, rfl, hH2.out.as (fun q => rfl), hC2.out, hB2.out⟩
      case round =>
        obtain ⟨j, hj, rfl, hH, hC, hb⟩ := hrel
        have HB : Hid (Below w.heap.size w wr) := hb
        have HC : Hid (Cel (fun k => w.heap.size < k) wr 1 (.slice la m lc) m (rowC strC L) lg) := hC
        by_cases hjm : j < m
        · have hjL : j < L.length := by rw [HL.out]; exact hjm
          obtain ⟨lb, rfl, rfl, hce⟩ := hC.elem wideS hjL HL.out
          have ce := hce 0 _ rfl
          rw [Nat.mul_one, Nat.add_zero] at ce
          have hsz := HLS.out _ (List.getElem_mem hjL)
          have hnx : ∀ q, cntT (L.take (j + 1)) q = cntT (L.take j) q + if L[j] = q then 1 else 0 := fun q => by
            rw [List.take_succ_eq_append_getElem hjL, cntT_app, cntT_one]
          have HNX : Hid _ := hnx
          clear hnx hce hC hb
          generalize L[j] = s at *
          obtain ⟨D, hown, hat⟩ := hH.ex
          have hkey := WideMaps.keyOf_string_mk (P := Tryz.prog) Tryz.underlying9 (s := s) (by unfold maxLen; omega)
          obtain ⟨F, hF⟩ : ∃ F, cntL (xs.take i) s + cntT (L.take j) s = F := ⟨_, rfl⟩
          have hF7 : F ≤ 67 := by
            have h1 := cnt_le (xs.take i) s
            rw [List.length_take] at h1
            have h2 : cntT (L.take j) s ≤ (L.take j).length := List.length_filter_le _ _
            rw [List.length_take] at h2
            omega
          have HAT : Hid (∀ q : ByteArray, D.atKey (.string q.data.toList) (.lit (.int .i64 0)) = .lit (.int .i64 ((cntL (xs.take i) q + cntT (L.take j) q : Nat) : Int))) := hat
          have hats : ∀ c : Int, D.atKey (.string s.data.toList) (.lit (.int .i64 0)) = .lit (.int .i64 c) → c = (F : Int) := fun c hc => by
            have h1 := HAT.out s
            rw [hF, hc] at h1
            simpa using h1
          have HATS : Hid _ := hats
          have HF : Hid (cntL (xs.take i) s + cntT (L.take j) s = F) := hF
          have HPUT : Hid (∀ w3, w3.ownsMap Tryz.prog 9 (plainElem Tryz.prog 3) w.heap.size (7 * i + j + 1) (D.put (.string s.data.toList) (.lit (.int .i64 ((F + 1 : Nat) : Int)))) → wr.mapTurned w3 w.heap.size → Held w3 w.heap.size (7 * i + (j + 1)) (fun q => cntL (xs.take i) q + cntT (L.take (j + 1)) q) ∧ Cel (fun k => w.heap.size < k) w3 1 (.slice (some ⟨lb, 0, none⟩) m lc) m (rowC strC L) (some lb) ∧ Below w.heap.size w w3) := fun w3 ho ht => by
            refine ⟨(Held.put hown.isMap HAT.out s (F + 1) ho).as (fun q => ?_), HC.out.stay ht.grown.size (fun k hk => ?_) (fun _ e => e), HB.out.trans (turned_below ht (by have := hH.lt; omega) (Nat.le_refl _))⟩
            · rw [HNX.out]
              by_cases e : q = s
              · subst e
                rw [if_pos rfl, if_pos rfl, ← HF.out]; omega
              · rw [if_neg e, if_neg (fun e2 => e e2.symm)]; omega
            · cases hk
              have := HC.out.lt
              exact turned_block ht this.1 (by omega)
          have hfv : plainElem (H := Value) Tryz.prog 3 (.int .i64 ((F : Int) + 1)) = some (.lit (.int .i64 ((F + 1 : Nat) : Int)), []) := by
            have := plainElem_int (H := Value) (P := Tryz.prog) Tryz.underlying3 (wf64 (n := F + 1) (by omega))
            rw [← this]; congr 2
          have hmax : 7 * i + j < maxLen := by unfold maxLen; omega
          clear hat hats hF
          go_wp2_with (first
            | (at_lookup; refine wpList_lookup_own_int _ rfl _ _ 95 rfl 9 3 .i64 lawK Tryz.underlying95 Tryz.underlying3 (zeroI _) w.heap.size _ D rfl hown _ _ rfl hkey ?_; intro cc hcc hwc; obtain rfl := HATS.out cc hcc; clear hcc hwc)
            | (at_mapUpdate; refine wpList_mapUpdate_in _ rfl _ _ _ 95 rfl 9 3 lawK Tryz.underlying95 (plainElem Tryz.prog 3) w.heap.size _ D rfl hown hmax _ _ _ rfl rfl hkey _ [] hfv ?_; intro w3 ho3 ht3; have HX : Hid _ := HPUT.out w3 ho3 ht3; clear ho3 ht3))
          go_roundw
          case rel => exact ⟨j + 1, by omega, by go_num, HX.out.1, HX.out.2.1, HX.out.2.2⟩
          case measure => simp [intOf]; omega
        · obtain rfl : j = m := by omega
          have hgd : decide ((j : Int) < (j : Int)) = false := decide_eq_false (by omega)
          have HN : Hid (Held wr w.heap.size (7 * (i + 1)) (cntL (xs.take (i + 1)))) := (hH.mono (by omega)).as (fun q => by rw [HCS.out, List.take_of_length_le (l := L) (by rw [HL.out]; omega)])
          clear hH hC hb hjm
          go_wp2
          go_roundw
          case rel => exact ⟨i + 1, by omega, by go_num, HN.out, HB.out⟩
          case measure => simp [intOf]; omega
    · obtain rfl : i = n := by omega
      have hgd : decide ((i : Int) < (i : Int)) = false := decide_eq_false (by omega)
      have HN : Hid (Held wr w.heap.size 420 (cntL xs)) := (hH.mono (by omega)).as (fun q => by rw [List.take_of_length_le (by rw [← HM.out, List.length_map, HP.out]; omega)])
      clear hb hH hlt HH
      go_wp2
      go_ret
      exact ⟨⟨w.heap.size, rfl, Nat.le_refl _, HN.out⟩, HB.out⟩

end Go.Proofs.YtigomhilcnnjdaaGreat

/- The contracts of quota.Count, quota.Over. -/
namespace Go.Proofs.YtigomhilcnnjdaaGreat
open Go.RowKit

/-- What Count tells. -/
def countN (u : Bool) (xs : NS) (p : ByteArray) : Nat := if u then cntL xs p else 0
def overs (u : Bool) (xs : NS) : List ByteArray := if u then overL xs else []
def rooms (u : Bool) (xs : NS) (p : ByteArray) : Int := if u then roomI xs p else 0

theorem Held.use {w : World} {b m : Nat} {f : ByteArray → Nat} (h : Held w b m f) (s : ByteArray) (F : Nat) (hF : f s = F) : ∃ D : DataW Value, w.ownsMap Tryz.prog 9 (plainElem Tryz.prog 3) b m D ∧ ∀ c : Int, D.atKey (.string s.data.toList) (.lit (.int .i64 0)) = .lit (.int .i64 c) → c = (F : Int) := by
  obtain ⟨D, hown, hat⟩ := h.ex
  refine ⟨D, hown, fun c hc => ?_⟩
  have h1 := hat s
  rw [hF, hc] at h1
  simpa using h1

theorem Held.look {w : World} {b m : Nat} {f : ByteArray → Nat} (h : Held w b m f) (s : ByteArray) (hs : s.size ≤ maxLen) (F : Nat) (hF : f s = F) : (Instr.lookup 95 (.map (some b)) (.string s) false).run Tryz.prog w = .ok (.int .i64 (F : Int)) w := by
  obtain ⟨D, hown, hat⟩ := h.use s F hF
  obtain ⟨c, hrun, h2, _⟩ := hown.lookup_int lawK Tryz.underlying95 Tryz.underlying3 (zeroI _) (WideMaps.keyOf_string_mk (P := Tryz.prog) Tryz.underlying9 (s := s) hs)
  obtain rfl := hat c h2
  exact hrun

end Go.Proofs.YtigomhilcnnjdaaGreat

/- The contract of quota.Over. -/
namespace Go.Proofs.YtigomhilcnnjdaaGreat
open Go.RowKit

set_option maxRecDepth 100000 in
set_option maxHeartbeats 4000000 in
theorem over_val {a : Option Addr} {n c : Nat} {xs : NS} {w : World} (h : NL w a n xs) (u : Bool) (hu : u = true ↔ Right xs) (ys : List ByteArray) (hy : overs u xs = ys) (m : Nat) (hm : ys.length = m) :
    Calls Tryz.prog 31 #[.slice a n c] w fun e w' => TextsR w.heap.size ys m e w' ∧ Below w.heap.size w w' := by
  obtain ⟨ti, hi1, hi2, hi3, hi4⟩ := strRow
  have CR : Hid (Calls Tryz.prog 30 #[.slice a n c] w fun e w' => e = .returned (.bool u) ∧ Below w.heap.size w w') := right_val h u hu
  cases u with
  | false =>
    have h0 : ys = [] := by rw [← hy]; rfl
    subst h0
    have hm0 : m = 0 := hm.symm
    subst hm0
    clear hu hy hm
    go_enter Tryz.func31, Tryz.ntmps31
    go_wp2_with (go_at_call 30; refine CR.out.mono ?_; rintro e w1 ⟨rfl, c1⟩; have cc : Hid _ := c1; clear c1)
    go_ret
    exact ⟨⟨none, 0, none, rfl, .nil rfl rfl rfl⟩, cc.out⟩
  | true =>
    have hr := hu.1 rfl
    have CC : Hid (∀ W, Below w.heap.size w W → Calls Tryz.prog 51 #[.slice a n c] W fun e w' => CountsR W.heap.size xs e w' ∧ Below W.heap.size W w') := fun W hb => counts_val (h.below hb) hr
    obtain ⟨b0, off, ps, k1, k2, k3⟩ := h.ex
    have HK : Hid (Nds w a b0 off ps) := k3
    have HP : Hid (ps.length = n) := by show ps.length = n; rw [← k2, ← k1, List.length_map]
    have HM : Hid (ps.map (·.1) = xs) := k1
    have HR : Hid (Right xs) := hr
    have hn60 : n ≤ 60 := by rw [← k2]; exact hr.few
    have HY : Hid ((xs.filter (overB xs)).map (·.path) = ys) := hy
    have HMM : Hid (ys.length = m) := hm
    clear h k1 k2 k3 hr hy hm hu
    go_enter Tryz.func31, Tryz.ntmps31
    go_wp2_with (first
      | (go_at_call 30; refine CR.out.mono ?_; rintro e w1 ⟨rfl, c1⟩; have cc : Hid _ := c1; clear c1)
      | (go_at_call 51; refine (CC.out _ cc.out).mono ?_; rintro e w2 ⟨⟨b, rfl, hbb, hH⟩, c2⟩; have cc2 : Hid (Below w.heap.size w w2) := bel_tr cc.out c2; have HH : Hid (Held w2 b 420 (cntL xs)) := hH; clear c2 hH hbb))
    clear CR CC cc
    have HO : Hid (∀ W s F, Below w2.heap.size w2 W → s.size ≤ maxLen → cntL xs s = F → (Instr.lookup 95 (.map (some b)) (.string s) false).run Tryz.prog W = .ok (.int .i64 (F : Int)) W) := fun W s F hb hs hF => (HH.out.below hb).look s hs F hF
    clear HH
    go_loopw [4, 6, 14] (fun v4 _ v wr => ∃ (i : Nat) (fa : Option Addr) (fn fc : Nat) (g : Option Nat), i ≤ n ∧ v = .int .i64 i ∧ v4 = .slice fa fn fc ∧ Cel (fun k => w2.heap.size ≤ k) wr 1 (.slice fa fn fc) fn (rowC strC (((xs.take i).filter (overB xs)).map (·.path))) g ∧ Below w2.heap.size w2 wr) (fun _ _ v _ => n - (intOf v).toNat)
    case atStart => exact ⟨0, none, 0, 0, none, by omega, rfl, rfl, .nil rfl rfl rfl, Below.refl _ _⟩
    case round =>
      obtain ⟨i, fa, fn, fc, g, hi, rfl, rfl, hC, hb⟩ := hrel
      have HB : Hid (Below w2.heap.size w2 wr) := hb
      have HC : Hid (Cel (fun k => w2.heap.size ≤ k) wr 1 (.slice fa fn fc) fn (rowC strC (((xs.take i).filter (overB xs)).map (·.path))) g) := hC
      by_cases hlt : i < n
      · have hip : i < ps.length := by rw [HP.out]; exact hlt
        have hix : i < xs.length := by rw [← HM.out, List.length_map]; exact hip
        have hK := HK.out.below (bel_tr cc2.out hb)
        obtain ⟨e0, e1, e2, e3, e4⟩ := hK.at hip
        obtain rfl := hK.addr (by omega)
        have exi : ps[i].1 = xs[i] := by
          have := HM.out
          subst this
          simp
        have hsp : splitE ps[i].1.path = 0 := by rw [exi]; exact fits_path (HR.out.fit _ (List.getElem_mem hix))
        have hsz : ps[i].1.path.size ≤ 120 := by rw [splitX_ok hsp]; exact pathT_small (split_ok hsp).1
        have hFT : ((xs.take (i + 1)).filter (overB xs)).map (·.path) = ((xs.take i).filter (overB xs)).map (·.path) ++ (if overB xs ps[i].1 then [ps[i].1.path] else []) := by
          rw [filter_take (overB xs) xs i hix, List.map_append, ← exi]
          split <;> rfl
        have HFT : Hid _ := hFT
        have hfn : fn ≤ 60 := by
          have h1 := hC.len
          rw [rowC_len wideS, Nat.mul_one, Nat.mul_one, List.length_map] at h1
          have h3 := List.length_filter_le (overB xs) (xs.take i)
          rw [List.length_take] at h3
          omega
        obtain ⟨F, hF⟩ : ∃ F, cntL xs ps[i].1.path = F := ⟨_, rfl⟩
        have hF60 : F ≤ 60 := by
          have h1 := cnt_le xs ps[i].1.path
          have h2 := HR.out.few
          omega
        have hov : overB xs ps[i].1 = (decide (0 ≤ ps[i].1.quota) && decide (ps[i].1.quota < (F : Int))) := by unfold overB; rw [hF]
        have hqm := quota_most HR.out (x := ps[i].1) (by rw [exi]; exact List.getElem_mem hix)
        have CM : Hid (∀ o v, decide (0 ≤ ps[i].1.quota) = v → Calls Tryz.prog 52 #[ndV ps[i]] (wr.alloc o) fun e w' => e = .returned (.bool v) ∧ Below (wr.alloc o).heap.size (wr.alloc o) w') := fun o v hv => limited_val ps[i] _ v hv
        have HO2 : Hid (∀ W, Below wr.heap.size wr W → (Instr.lookup 95 (.map (some b)) (.string ps[i].1.path) false).run Tryz.prog W = .ok (.int .i64 (F : Int)) W) := fun W hW => HO.out W _ F (bel_tr HB.out hW) (by unfold maxLen; omega) hF
        have HOV : Hid _ := hov
        clear hb hC hK exi hsp hFT hF hov hix
        generalize ps[i] = x at *
        obtain ⟨⟨p, d, q, bs, wb⟩, ⟨sa, sn, sc⟩⟩ := x
        unfold ndV at CM
        simp only at e0 e1 e2 e3 e4 CM HFT HOV HO2 hsz hqm
        have hst := run_store_str
        have hst2 : ∀ (w : World) (a : Addr) (x : Option Addr) (n c : Nat) (m : Mode), (store a (.slice x n c) m).run Tryz.prog w = stored Tryz.prog w a (.slice x n c) m := fun w a x n c m => run_store_any w a _ m rfl
        cases hq : decide (0 ≤ q) with
        | false =>
          have HQ : Hid _ := hq
          have HE : Hid (overB xs ⟨p, d, q, bs, wb⟩ = false) := by show _ = _; rw [HOV.out, hq]; rfl
          clear hq
          go_wp2_with (go_at_call 52; refine (CM.out _ false HQ.out).mono ?_; rintro e w5 ⟨rfl, c5⟩; have B5 : Hid (Below wr.heap.size wr w5) := bel_tr (bel_al _ _) c5; clear c5)
          go_roundw
          case rel => exact ⟨i + 1, fa, fn, fc, g, by omega, by go_num, rfl, by rw [HFT.out, HE.out]; simpa using HC.out.below B5.out, bel_tr HB.out B5.out⟩
          case measure => simp [intOf]; omega
        | true =>
          have HQ : Hid _ := hq
          cases hqF : decide (q < (F : Int)) with
          | false =>
            have HE : Hid (overB xs ⟨p, d, q, bs, wb⟩ = false) := by show _ = _; rw [HOV.out, hqF]; simp
            clear hq
            go_wp2_with (go_at_call 52; refine (CM.out _ true HQ.out).mono ?_; rintro e w5 ⟨rfl, c5⟩; have B5 : Hid (Below wr.heap.size wr w5) := bel_tr (bel_al _ _) c5; have y0 := bel_cell c5 (World.cell?_alloc_new wr _ _ 0); have y2 := bel_cell c5 (World.cell?_alloc_new wr _ _ 2); clear c5; have hlk := HO2.out _ B5.out)
            go_roundw
            case rel => exact ⟨i + 1, fa, fn, fc, g, by omega, by go_num, rfl, by rw [HFT.out, HE.out]; simpa using HC.out.below B5.out, bel_tr HB.out B5.out⟩
            case measure => simp [intOf]; omega
          | true =>
            have HE : Hid (overB xs ⟨p, d, q, bs, wb⟩ = true) := by show _ = _; rw [HOV.out, hq, hqF]; rfl
            clear hq
            have HNX : Hid (((xs.take (i + 1)).filter (overB xs)).map (·.path) = ((xs.take i).filter (overB xs)).map (·.path) ++ [p]) := by show _ = _; rw [HFT.out, HE.out]; rfl
            clear HFT
            generalize ((xs.take i).filter (overB xs)).map (·.path) = A at *
            generalize hA2 : ((xs.take (i + 1)).filter (overB xs)).map (·.path) = A2 at *
            have HAP : Hid (∀ w6 o a2 c2 w7 g7, Below wr.heap.size wr w6 → Cel (Grow (fun k => w2.heap.size ≤ k) (w6.alloc o) w7) w7 1 (.slice a2 (fn + 1) c2) (fn + 1) (rowC strC A ++ rowC strC [p]) g7 → Stay (fun k => g = some k) (w6.alloc o) w7 → Cel (fun k => w2.heap.size ≤ k) w7 1 (.slice a2 (fn + 1) c2) (fn + 1) (rowC strC A2) g7 ∧ Below w2.heap.size w2 w7) := fun w6 o a2 c2 w7 g7 B hC hS => by
              have B3 : Below wr.heap.size wr (w6.alloc o) := bel_tr B (bel_al _ _)
              have z0 := HB.out.size
              have z1 := B3.size
              rw [HNX.out, rowC_app]
              refine ⟨grow_base (by omega) (fun k hk => hk) hC, (HB.out.trans (B3.mono (by omega))).trans (hS.below (by omega) (fun k hk => ?_))⟩
              have := HC.out; rw [hk] at this; exact this.lt.2
            have HA2 : Hid _ := hA2
            clear hA2
            go_wp2_with (first
              | (go_at_call 52; refine (CM.out _ true HQ.out).mono ?_; rintro e w5 ⟨rfl, c5⟩; have B5 : Hid (Below wr.heap.size wr w5) := bel_tr (bel_al _ _) c5; have y0 := bel_cell c5 (World.cell?_alloc_new wr _ _ 0); have y2 := bel_cell c5 (World.cell?_alloc_new wr _ _ 2); clear c5; have hlk := HO2.out _ B5.out)
              | (at_builtin; refine wpList_append_cel _ rfl _ _ 37 37 rfl 9 ti _ 1 16 Tryz.underlying37 hi1 hi2 hi3 hi4 rfl (O := fun k => w2.heap.size ≤ k) _ fn _ g rfl (HC.out.below (bel_tr B5.out (bel_al _ _))) _ 1 (rowC strC [p]) rfl (src_new1 w5 p) (by unfold maxLen; omega) (by omega) ?_; intro a7 c7 w7 g7 hC7 hS7 hf7; have HX : Hid _ := HAP.out w5 _ a7 c7 w7 g7 B5.out hC7 hS7; clear hC7 hS7 hf7))
            go_roundw
            case rel => exact ⟨i + 1, a7, fn + 1, c7, g7, by omega, by go_num, rfl, by rw [HA2.out]; exact HX.out.1, HX.out.2⟩
            case measure => simp [intOf]; omega
      · obtain rfl : i = n := by omega
        have hgd : decide ((i : Int) < (i : Int)) = false := decide_eq_false (by omega)
        rw [List.take_of_length_le (by rw [← HM.out, List.length_map, HP.out]; omega), HY.out] at hC
        have hfm : fn = m := by
          have h1 := hC.len
          rw [rowC_len wideS, Nat.mul_one, Nat.mul_one] at h1
          have := HMM.out
          omega
        subst hfm
        have HX : Hid (Cel (fun k => w.heap.size ≤ k) wr 1 (.slice fa fn fc) fn (rowC strC ys) g) := hC.stay (Nat.le_refl _) (fun _ _ => rfl) (fun k hk => Nat.le_trans cc2.out.size hk)
        clear hb hC hlt HC
        go_wp2
        go_ret
        exact ⟨⟨fa, fc, g, rfl, HX.out⟩, bel_tr cc2.out HB.out⟩

end Go.Proofs.YtigomhilcnnjdaaGreat

/- The contract of quota.Room. -/
namespace Go.Proofs.YtigomhilcnnjdaaGreat
open Go.RowKit

end Go.Proofs.YtigomhilcnnjdaaGreat

/- The contract of tabulariumref08.Count. -/
namespace Go.Proofs.YtigomhilcnnjdaaGreat
open Go.RowKit

set_option maxRecDepth 100000 in
set_option maxHeartbeats 4000000 in
theorem refCount_val {a : Option Addr} {n c : Nat} {xs : NS} {w : World} (h : NL w a n xs) (u : Bool) (hu : u = true ↔ Right xs) (p : ByteArray) (hs : p.size ≤ maxLen) (F : Nat) (hF : countN u xs p = F) :
    Calls Tryz.prog 86 #[.slice a n c, .string p] w fun e w' => e = .returned (.int .i64 (F : Int)) ∧ Below w.heap.size w w' := by
  have CR : Hid (Calls Tryz.prog 60 #[.slice a n c] w fun e w' => e = .returned (.bool u) ∧ Below w.heap.size w w') := refRight_val h u hu
  have hlid := h.lid
  unfold maxLen at hlid
  cases u with
  | false =>
    have h0 : F = 0 := by rw [← hF]; rfl
    subst h0
    clear hu hF
    go_enter Tryz.func86, Tryz.ntmps86
    go_wp2_with (go_at_call 60; refine CR.out.mono ?_; rintro e w1 ⟨rfl, c1⟩; have cc : Hid _ := c1; clear c1)
    go_loopw [6, 7, 8] (fun v6 v7 _ wr => v6 = .int .i64 0 ∧ v7 = .int .i64 0 ∧ wr = w1) (fun _ _ _ _ => 0)
    case atStart => exact ⟨rfl, rfl, rfl⟩
    case round =>
      obtain ⟨rfl, rfl, rfl⟩ := hrel
      go_wp2
      all_goals
        go_ret
        exact ⟨rfl, cc.out⟩
  | true =>
    have hr := hu.1 rfl
    obtain ⟨b0, off, ps, k1, k2, k3⟩ := h.ex
    have HK : Hid (Nds w a b0 off ps) := k3
    have HP : Hid (ps.length = n) := by show ps.length = n; rw [← k2, ← k1, List.length_map]
    have HM : Hid (ps.map (·.1) = xs) := k1
    have HR : Hid (Right xs) := hr
    have hn60 : n ≤ 60 := by rw [← k2]; exact hr.few
    have HF : Hid (cntL xs p = F) := hF
    have HS : Hid (p.size ≤ maxLen) := hs
    clear h k1 k2 k3 hr hF hu hs
    go_enter Tryz.func86, Tryz.ntmps86
    go_wp2_with (go_at_call 60; refine CR.out.mono ?_; rintro e w1 ⟨rfl, c1⟩; have cc : Hid _ := c1; clear c1)
    clear CR
    go_loopw [6, 7, 8] (fun v6 v7 _ wr => ∃ i : Nat, i ≤ n ∧ v7 = .int .i64 i ∧ v6 = .int .i64 ((cntL (xs.take i) p : Nat) : Int) ∧ Below w.heap.size w wr) (fun _ v _ _ => n - (intOf v).toNat)
    case atStart => exact ⟨0, by omega, rfl, rfl, cc.out⟩
    case round =>
      obtain ⟨i, hi, rfl, rfl, hb⟩ := hrel
      have HB : Hid (Below w.heap.size w wr) := hb
      have hG : cntL (xs.take i) p ≤ 60 := by
        have h1 := cnt_le (xs.take i) p
        rw [List.length_take] at h1
        omega
      by_cases hlt : i < n
      · have hip : i < ps.length := by rw [HP.out]; exact hlt
        have hix : i < xs.length := by rw [← HM.out, List.length_map]; exact hip
        have hK := HK.out.below hb
        have e0 := (hK.at hip).1
        obtain rfl := hK.addr (by omega)
        have exi : ps[i].1 = xs[i] := by
          have := HM.out
          subst this
          simp
        have hsm := (hK.ok _ (List.getElem_mem hip)).small
        have hcs : cntL (xs.take (i + 1)) p = cntL (xs.take i) p + (if underB p ps[i].1.path then 1 else 0) := by
          rw [List.take_succ_eq_append_getElem hix, cnt_app, cnt_one, exi]
        have HCS : Hid _ := hcs
        have CU : Hid (∀ W v, underB p ps[i].1.path = v → Calls Tryz.prog 100 #[.string p, .string ps[i].1.path] W fun e w' => e = .returned (.bool v) ∧ Below W.heap.size W w') := fun W v hv => refUnder_val _ _ v W HS.out hsm hv
        clear hb hK exi hcs hsm hix
        generalize ps[i].1.path = q at *
        generalize cntL (xs.take i) p = G at *
        cases hun : underB p q with
        | false =>
          have HU : Hid _ := hun
          have HE : Hid (cntL (xs.take (i + 1)) p = G) := by show _ = _; rw [HCS.out, hun]; rfl
          clear hun
          go_wp2_with (go_at_call 100; refine (CU.out _ false HU.out).mono ?_; rintro e w2 ⟨rfl, c2⟩; have B2 : Hid _ := c2; clear c2)
          go_roundw
          case rel => exact ⟨i + 1, by omega, by go_num, by rw [HE.out], bel_tr HB.out B2.out⟩
          case measure => simp [intOf]; omega
        | true =>
          have HU : Hid _ := hun
          have HE : Hid (cntL (xs.take (i + 1)) p = G + 1) := by show _ = _; rw [HCS.out, hun]; rfl
          clear hun
          go_wp2_with (go_at_call 100; refine (CU.out _ true HU.out).mono ?_; rintro e w2 ⟨rfl, c2⟩; have B2 : Hid _ := c2; clear c2)
          go_roundw
          case rel => exact ⟨i + 1, by omega, by go_num, by rw [HE.out]; go_num, bel_tr HB.out B2.out⟩
          case measure => simp [intOf]; omega
      · obtain rfl : i = n := by omega
        have hgd : decide ((i : Int) < (i : Int)) = false := decide_eq_false (by omega)
        have hE : cntL (xs.take i) p = F := by rw [List.take_of_length_le (by rw [← HM.out, List.length_map, HP.out]; omega), HF.out]
        rw [hE] at hG ⊢
        clear hb hlt hE
        go_wp2
        go_ret
        exact ⟨rfl, HB.out⟩

end Go.Proofs.YtigomhilcnnjdaaGreat

/- The contract of tabulariumref08.Over. -/
namespace Go.Proofs.YtigomhilcnnjdaaGreat
open Go.RowKit

set_option maxRecDepth 100000 in
set_option maxHeartbeats 4000000 in
theorem refOver_val {a : Option Addr} {n c : Nat} {xs : NS} {w : World} (h : NL w a n xs) (u : Bool) (hu : u = true ↔ Right xs) (ys : List ByteArray) (hy : overs u xs = ys) (m : Nat) (hm : ys.length = m) :
    Calls Tryz.prog 62 #[.slice a n c] w fun e w' => TextsR w.heap.size ys m e w' ∧ Below w.heap.size w w' := by
  obtain ⟨ti, hi1, hi2, hi3, hi4⟩ := strRow
  have CR : Hid (Calls Tryz.prog 60 #[.slice a n c] w fun e w' => e = .returned (.bool u) ∧ Below w.heap.size w w') := refRight_val h u hu
  have hlid := h.lid
  unfold maxLen at hlid
  cases u with
  | false =>
    have h0 : ys = [] := by rw [← hy]; rfl
    subst h0
    have hm0 : m = 0 := hm.symm
    subst hm0
    clear hu hy hm
    go_enter Tryz.func62, Tryz.ntmps62
    go_wp2_with (go_at_call 60; refine CR.out.mono ?_; rintro e w1 ⟨rfl, c1⟩; have cc : Hid _ := c1; clear c1)
    go_loopw [4, 5] (fun v4 v5 wr => v4 = .slice none 0 0 ∧ v5 = .int .i64 0 ∧ wr = w1) (fun _ _ _ => 0)
    case atStart => exact ⟨rfl, rfl, rfl⟩
    case round =>
      obtain ⟨rfl, rfl, rfl⟩ := hrel
      go_wp2
      all_goals
        go_ret
        exact ⟨⟨none, 0, none, rfl, .nil rfl rfl rfl⟩, cc.out⟩
  | true =>
    have hr := hu.1 rfl
    have CC : Hid (∀ W s F, Below w.heap.size w W → s.size ≤ maxLen → cntL xs s = F → Calls Tryz.prog 86 #[.slice a n c, .string s] W fun e w' => e = .returned (.int .i64 (F : Int)) ∧ Below W.heap.size W w') := fun W s F hb hs hF => refCount_val (h.below hb) true hu s hs F hF
    obtain ⟨b0, off, ps, k1, k2, k3⟩ := h.ex
    have HK : Hid (Nds w a b0 off ps) := k3
    have HP : Hid (ps.length = n) := by show ps.length = n; rw [← k2, ← k1, List.length_map]
    have HM : Hid (ps.map (·.1) = xs) := k1
    have HR : Hid (Right xs) := hr
    have hn60 : n ≤ 60 := by rw [← k2]; exact hr.few
    have HY : Hid ((xs.filter (overB xs)).map (·.path) = ys) := hy
    have HMM : Hid (ys.length = m) := hm
    clear h k1 k2 k3 hr hy hm hu
    go_enter Tryz.func62, Tryz.ntmps62
    go_wp2_with (go_at_call 60; refine CR.out.mono ?_; rintro e w2 ⟨rfl, c2⟩; have cc2 : Hid (Below w.heap.size w w2) := c2; clear c2)
    clear CR
    go_loopw [4, 5] (fun v4 v wr => ∃ (i : Nat) (fa : Option Addr) (fn fc : Nat) (g : Option Nat), i ≤ n ∧ v = .int .i64 i ∧ v4 = .slice fa fn fc ∧ Cel (fun k => w2.heap.size ≤ k) wr 1 (.slice fa fn fc) fn (rowC strC (((xs.take i).filter (overB xs)).map (·.path))) g ∧ Below w2.heap.size w2 wr) (fun _ v _ => n - (intOf v).toNat)
    case atStart => exact ⟨0, none, 0, 0, none, by omega, rfl, rfl, .nil rfl rfl rfl, Below.refl _ _⟩
    case round =>
      obtain ⟨i, fa, fn, fc, g, hi, rfl, rfl, hC, hb⟩ := hrel
      have HB : Hid (Below w2.heap.size w2 wr) := hb
      have HC : Hid (Cel (fun k => w2.heap.size ≤ k) wr 1 (.slice fa fn fc) fn (rowC strC (((xs.take i).filter (overB xs)).map (·.path))) g) := hC
      by_cases hlt : i < n
      · have hip : i < ps.length := by rw [HP.out]; exact hlt
        have hix : i < xs.length := by rw [← HM.out, List.length_map]; exact hip
        have hK := HK.out.below (bel_tr cc2.out hb)
        obtain ⟨e0, e1, e2, e3, e4⟩ := hK.at hip
        obtain rfl := hK.addr (by omega)
        have exi : ps[i].1 = xs[i] := by
          have := HM.out
          subst this
          simp
        have hsp : splitE ps[i].1.path = 0 := by rw [exi]; exact fits_path (HR.out.fit _ (List.getElem_mem hix))
        have hsz : ps[i].1.path.size ≤ 120 := by rw [splitX_ok hsp]; exact pathT_small (split_ok hsp).1
        have hFT : ((xs.take (i + 1)).filter (overB xs)).map (·.path) = ((xs.take i).filter (overB xs)).map (·.path) ++ (if overB xs ps[i].1 then [ps[i].1.path] else []) := by
          rw [filter_take (overB xs) xs i hix, List.map_append, ← exi]
          split <;> rfl
        have HFT : Hid _ := hFT
        have hfn : fn ≤ 60 := by
          have h1 := hC.len
          rw [rowC_len wideS, Nat.mul_one, Nat.mul_one, List.length_map] at h1
          have h3 := List.length_filter_le (overB xs) (xs.take i)
          rw [List.length_take] at h3
          omega
        obtain ⟨F, hF⟩ : ∃ F, cntL xs ps[i].1.path = F := ⟨_, rfl⟩
        have hF60 : F ≤ 60 := by
          have h1 := cnt_le xs ps[i].1.path
          have h2 := HR.out.few
          omega
        have hov : overB xs ps[i].1 = (decide (0 ≤ ps[i].1.quota) && decide (ps[i].1.quota < (F : Int))) := by unfold overB; rw [hF]
        have hmem : ps[i].1 ∈ xs := by rw [exi]; exact List.getElem_mem hix
        have hqm := quota_most HR.out (x := ps[i].1) hmem
        have hqd : 0 ≤ ps[i].1.quota → ps[i].1.dir = true := quota_dir HR.out hmem
        have HQD : Hid _ := hqd
        have CC2 : Hid (∀ W, Below wr.heap.size wr W → Calls Tryz.prog 86 #[.slice (some ⟨b0, off, none⟩) n c, .string ps[i].1.path] W fun e w' => e = .returned (.int .i64 (F : Int)) ∧ Below W.heap.size W w') := fun W hW => CC.out W _ F (bel_tr cc2.out (bel_tr HB.out hW)) (by unfold maxLen; omega) hF
        have HOV : Hid _ := hov
        clear hb hC hK exi hsp hFT hF hov hix hqd hmem
        generalize ps[i] = x at *
        obtain ⟨⟨p, d, q, bs, wb⟩, ⟨sa, sn, sc⟩⟩ := x
        simp only at e0 e1 e2 e3 e4 HFT HOV HQD CC2 hsz hqm
        have r0 : ∀ dd os, (Sort.grow (redrawn wr dd) os).cell? ⟨b0, off + i * 5, none⟩ = some (.string p) := fun dd os => cell_regrown e0 dd os
        have r1 : ∀ dd os, (Sort.grow (redrawn wr dd) os).cell? ⟨b0, off + i * 5 + 1, none⟩ = some (.bool d) := fun dd os => cell_regrown e1 dd os
        have r2 : ∀ dd os, (Sort.grow (redrawn wr dd) os).cell? ⟨b0, off + i * 5 + 2, none⟩ = some (.int .i64 q) := fun dd os => cell_regrown e2 dd os
        have CC3 : Hid (∀ dd os, Calls Tryz.prog 86 #[.slice (some ⟨b0, off, none⟩) n c, .string p] (Sort.grow (redrawn wr dd) os) fun e w' => e = .returned (.int .i64 (F : Int)) ∧ Below (Sort.grow (redrawn wr dd) os).heap.size (Sort.grow (redrawn wr dd) os) w') := fun dd os => CC2.out _ (below_regrown wr dd os)
        have E0 : Hid _ := e0
        clear CC2 e1 e2 e3 e4 e0
        cases hd : d with
        | false =>
          subst hd
          have HE : Hid (overB xs ⟨p, false, q, bs, wb⟩ = false) := by
            show _ = _
            rw [HOV.out, Bool.and_eq_false_iff]
            left
            rw [decide_eq_false_iff_not]
            intro e; have := HQD.out e; cases this
          go_wp2
          refine wp_region_quiet_below (by kernel_rfl) (by kernel_rfl) ?_
          repeat (first | go_big_quiet_step (first | exact Calls.regrown_of (CC3.out _ _) | fail) | quiet_step (first | exact Calls.regrown_of (CC3.out _ _) | fail))
          refine wpQuiet_nil ?_
          intro _ hw'
          obtain ⟨⟨dq, osq⟩, hw''⟩ := hw'
          subst hw''
          go_wp2
          go_roundw
          case rel => exact ⟨i + 1, fa, fn, fc, g, by omega, by go_num, rfl, by rw [HFT.out, HE.out]; simpa using HC.out.below (below_regrown wr dq osq), bel_tr HB.out (below_regrown wr dq osq)⟩
          case measure => simp [intOf]; omega
        | true =>
          subst hd
          cases hq : decide (0 ≤ q) with
          | false =>
            have HE : Hid (overB xs ⟨p, true, q, bs, wb⟩ = false) := by show _ = _; rw [HOV.out, hq]; rfl
            go_wp2
            refine wp_region_quiet_below (by kernel_rfl) (by kernel_rfl) ?_
            repeat (first | go_big_quiet_step (first | exact Calls.regrown_of (CC3.out _ _) | fail) | quiet_step (first | exact Calls.regrown_of (CC3.out _ _) | fail))
            refine wpQuiet_nil ?_
            intro _ hw'
            obtain ⟨⟨dq, osq⟩, hw''⟩ := hw'
            subst hw''
            go_wp2
            go_roundw
            case rel => exact ⟨i + 1, fa, fn, fc, g, by omega, by go_num, rfl, by rw [HFT.out, HE.out]; simpa using HC.out.below (below_regrown wr dq osq), bel_tr HB.out (below_regrown wr dq osq)⟩
            case measure => simp [intOf]; omega
          | true =>
            cases hqF : decide (q < (F : Int)) with
            | false =>
              have HE : Hid (overB xs ⟨p, true, q, bs, wb⟩ = false) := by show _ = _; rw [HOV.out, hqF]; simp
              go_wp2
              refine wp_region_quiet_below (by kernel_rfl) (by kernel_rfl) ?_
              repeat (first | go_big_quiet_step (first | exact Calls.regrown_of (CC3.out _ _) | fail) | quiet_step (first | exact Calls.regrown_of (CC3.out _ _) | fail))
              refine wpQuiet_nil ?_
              intro _ hw'
              obtain ⟨⟨dq, osq⟩, hw''⟩ := hw'
              subst hw''
              go_wp2
              go_roundw
              case rel => exact ⟨i + 1, fa, fn, fc, g, by omega, by go_num, rfl, by rw [HFT.out, HE.out]; simpa using HC.out.below (below_regrown wr dq osq), bel_tr HB.out (below_regrown wr dq osq)⟩
              case measure => simp [intOf]; omega
            | true =>
              have HE : Hid (overB xs ⟨p, true, q, bs, wb⟩ = true) := by show _ = _; rw [HOV.out, hq, hqF]; rfl
              have HNX : Hid (((xs.take (i + 1)).filter (overB xs)).map (·.path) = ((xs.take i).filter (overB xs)).map (·.path) ++ [p]) := by show _ = _; rw [HFT.out, HE.out]; rfl
              clear HFT
              generalize ((xs.take i).filter (overB xs)).map (·.path) = A at *
              generalize hA2 : ((xs.take (i + 1)).filter (overB xs)).map (·.path) = A2 at *
              have HAP : Hid (∀ w6 o a2 c2 w7 g7, Below wr.heap.size wr w6 → Cel (Grow (fun k => w2.heap.size ≤ k) (w6.alloc o) w7) w7 1 (.slice a2 (fn + 1) c2) (fn + 1) (rowC strC A ++ rowC strC [p]) g7 → Stay (fun k => g = some k) (w6.alloc o) w7 → Cel (fun k => w2.heap.size ≤ k) w7 1 (.slice a2 (fn + 1) c2) (fn + 1) (rowC strC A2) g7 ∧ Below w2.heap.size w2 w7) := fun w6 o a2 c2 w7 g7 B hC hS => by
                have B3 : Below wr.heap.size wr (w6.alloc o) := bel_tr B (bel_al _ _)
                have z0 := HB.out.size
                have z1 := B3.size
                rw [HNX.out, rowC_app]
                refine ⟨grow_base (by omega) (fun k hk => hk) hC, (HB.out.trans (B3.mono (by omega))).trans (hS.below (by omega) (fun k hk => ?_))⟩
                have := HC.out; rw [hk] at this; exact this.lt.2
              have HA2 : Hid _ := hA2
              clear hA2
              go_wp2
              refine wp_region_quiet_below (by kernel_rfl) (by kernel_rfl) ?_
              repeat (first | go_big_quiet_step (first | exact Calls.regrown_of (CC3.out _ _) | fail) | quiet_step (first | exact Calls.regrown_of (CC3.out _ _) | fail))
              refine wpQuiet_nil ?_
              intro _ hw'
              obtain ⟨⟨dq, osq⟩, hw''⟩ := hw'
              subst hw''
              have B5 : Hid (Below wr.heap.size wr (Sort.grow (redrawn wr dq) osq)) := below_regrown wr dq osq
              have f0 : (Sort.grow (redrawn wr dq) osq).cell? ⟨b0, off + i * 5, none⟩ = some (.string p) := r0 dq osq
              clear r0 r1 r2 CC3
              generalize Sort.grow (redrawn wr dq) osq = w5 at *
              go_wp2_with (at_builtin; refine wpList_append_cel _ rfl _ _ 37 37 rfl 9 ti _ 1 16 Tryz.underlying37 hi1 hi2 hi3 hi4 rfl (O := fun k => w2.heap.size ≤ k) _ fn _ g rfl (HC.out.below (bel_tr B5.out (bel_al _ _))) _ 1 (rowC strC [p]) rfl (src_new1 w5 p) (by unfold maxLen; omega) (by omega) ?_; intro a7 c7 w7 g7 hC7 hS7 hf7; have HX : Hid _ := HAP.out w5 _ a7 c7 w7 g7 B5.out hC7 hS7; clear hC7 hS7 hf7)
              go_roundw
              case rel => exact ⟨i + 1, a7, fn + 1, c7, g7, by omega, by go_num, rfl, by rw [HA2.out]; exact HX.out.1, HX.out.2⟩
              case measure => simp [intOf]; omega
      · obtain rfl : i = n := by omega
        have hgd : decide ((i : Int) < (i : Int)) = false := decide_eq_false (by omega)
        rw [List.take_of_length_le (by rw [← HM.out, List.length_map, HP.out]; omega), HY.out] at hC
        have hfm : fn = m := by
          have h1 := hC.len
          rw [rowC_len wideS, Nat.mul_one, Nat.mul_one] at h1
          have := HMM.out
          omega
        subst hfm
        have HX : Hid (Cel (fun k => w.heap.size ≤ k) wr 1 (.slice fa fn fc) fn (rowC strC ys) g) := hC.stay (Nat.le_refl _) (fun _ _ => rfl) (fun k hk => Nat.le_trans cc2.out.size hk)
        clear hb hC hlt HC
        go_wp2
        go_ret
        exact ⟨⟨fa, fc, g, rfl, HX.out⟩, bel_tr cc2.out HB.out⟩

end Go.Proofs.YtigomhilcnnjdaaGreat
