/- The contract of quota.counts. -/
import Derived.Test.YtlfehfajaelmlaaQuotaF1
import Derived.Test.YtlfehfajaelmlaaQuotaH
namespace Go.Proofs.Ytlfehfajaelmlaa
open Go.RowKit

/-- The counts are told. -/
structure CountsR (base : Nat) (xs : NS) (e : Ending) (w' : World) : Prop where
  ex : ∃ b, e = .returned (.map (some b)) ∧ base ≤ b ∧ Held w' b 420 (cntL xs)

theorem turned_below {w w' : World} {b base : Nat} (h : w.mapTurned w' b) (hB : base ≤ w.heap.size) (hb : base ≤ b) : Below base w w' :=
  (Below.refl base w).grown h.grown hB (fun k hk => by cases hk; exact hb)
theorem turned_block {w w' : World} {b k : Nat} (h : w.mapTurned w' b) (hk : k < w.heap.size) (hne : k ≠ b) : w'.heap[k]? = w.heap[k]? :=
  h.grown.block k hk (by simpa using hne)

set_option maxRecDepth 100000 in
set_option maxHeartbeats 4000000 in
theorem counts_val {a : Option Addr} {n c : Nat} {xs : NS} {w : World} (h : NL w a n xs) (hr : Right xs) :
    Calls Try.prog 21 #[.slice a n c] w fun e w' => CountsR w.heap.size xs e w' ∧ Below w.heap.size w w' := by
  obtain ⟨b0, off, ps, k1, k2, k3⟩ := h.ex
  have HK : Hid (Nds w a b0 off ps) := k3
  have HP : Hid (ps.length = n) := by show ps.length = n; rw [← k2, ← k1, List.length_map]
  have HM : Hid (ps.map (·.1) = xs) := k1
  have HR : Hid (Right xs) := hr
  have hn60 : n ≤ 60 := by rw [← k2]; exact hr.few
  clear h k1 k2 k3 hr
  have hmm := @run_makeMap Try.prog
  have H0 : Hid (Held (w.alloc (.map #[] 0)) w.heap.size 0 (fun _ => 0)) := Held.new w
  go_enter Try.func21, Try.ntmps21
  go_wp2
  clear hmm
  go_loopw [5, 7, 11] (fun _ _ v wr => ∃ i : Nat, i ≤ n ∧ v = .int .i64 i ∧ Held wr w.heap.size (7 * i) (cntL (xs.take i)) ∧ Below w.heap.size w wr) (fun _ _ v _ => n - (intOf v).toNat)
  case atStart => exact ⟨0, by omega, rfl, H0.out, bel_al _ _⟩
  case round =>
    obtain ⟨i, hi, rfl, hH, hb⟩ := hrel
    have HB : Hid (Below w.heap.size w wr) := hb
    have HH : Hid (Held wr w.heap.size (7 * i) (cntL (xs.take i))) := hH
    by_cases hlt : i < n
    · have hip : i < ps.length := by rw [HP.out]; exact hlt
      have hix : i < xs.length := by rw [← HM.out, List.length_map]; exact hip
      have hK := HK.out.below hb
      obtain ⟨e0, e1, e2, e3, e4⟩ := hK.at hip
      obtain rfl := hK.addr (by omega)
      have exi : ps[i].1 = xs[i] := by
        have := HM.out
        subst this
        simp
      have hsp : splitE ps[i].1.path = 0 := by rw [exi]; exact fits_path (HR.out.fit _ (List.getElem_mem hix))
      have hcs : ∀ q, cntL (xs.take (i + 1)) q = cntL (xs.take i) q + cntT (lineL ps[i].1.path) q := fun q => by
        rw [cnt_succ hix (fits_path (HR.out.fit _ (List.getElem_mem hix))) q, exi]
      have HCS : Hid _ := hcs
      obtain ⟨m, hm⟩ : ∃ m, (lineL ps[i].1.path).length = m := ⟨_, rfl⟩
      have hm7 : m ≤ 7 := by rw [← hm]; exact line_few _
      have HLS : Hid (∀ s ∈ lineL ps[i].1.path, s.size ≤ 120) := line_small hsp
      have CL : Hid (∀ W, Calls Try.prog 40 #[.string ps[i].1.path] W fun e w' => TextsR W.heap.size (lineL ps[i].1.path) m e w' ∧ Below W.heap.size W w') := fun W => line_val ps[i].1.path W hsp m hm
      have HL : Hid ((lineL ps[i].1.path).length = m) := hm
      clear hb hH hK exi hcs hm hsp hix
      generalize ps[i] = x at *
      obtain ⟨⟨p, d, q, bs, wb⟩, ⟨sa, sn, sc⟩⟩ := x
      simp only at e0 e1 e2 e3 e4 CL HL HLS HCS
      generalize lineL p = L at *
      have hst := run_store_str
      have hst2 : ∀ (w : World) (a : Addr) (x : Option Addr) (n c : Nat) (m : Mode), (store a (.slice x n c) m).run Try.prog w = stored Try.prog w a (.slice x n c) m := fun w a x n c m => run_store_any w a _ m rfl
      go_wp2_with (go_at_call 40; refine (CL.out _).mono ?_; rintro e w1 ⟨⟨la, lc, lg, rfl, hC⟩, c1⟩; have HC : Hid _ := hC; have B1 : Hid (Below wr.heap.size wr w1) := bel_tr (bel_al _ _) c1; clear hC c1)
      have hC1 : Cel (fun k => w.heap.size < k) w1 1 (.slice la m lc) m (rowC strC L) lg := HC.out.stay (Nat.le_refl _) (fun _ _ => rfl) (fun k hk => by have := HH.out.lt; simp at hk; omega)
      have hH1 : Held w1 w.heap.size (7 * i) (cntL (xs.take i)) := HH.out.below B1.out
      have hB1 : Below w.heap.size w w1 := HB.out.trans (B1.out.mono HB.out.size)
      have hC2 : Hid (Cel (fun k => w.heap.size < k) w1 1 (.slice la m lc) m (rowC strC L) lg) := hC1
      have hH2 : Hid (Held w1 w.heap.size (7 * i) (cntL (xs.take i))) := hH1
      have hB2 : Hid (Below w.heap.size w w1) := hB1
      clear HC HH CL hC1 hH1 hB1 e0 e1 e2 e3 e4 HB B1 H0
      rename World => wo
      go_loopw [7, 19] (fun _ v wi => ∃ j : Nat, j ≤ m ∧ v = .int .i64 j ∧ Held wi w.heap.size (7 * i + j) (fun q => cntL (xs.take i) q + cntT (L.take j) q) ∧ Cel (fun k => w.heap.size < k) wi 1 (.slice la m lc) m (rowC strC L) lg ∧ Below w.heap.size w wi) (fun _ v _ => m - (intOf v).toNat)
      case atStart => exact ⟨0, by omega, rfl, hH2.out.as (fun q => rfl), hC2.out, hB2.out⟩
      case round =>
        obtain ⟨j, hj, rfl, hH, hC, hb⟩ := hrel
        have HB : Hid (Below w.heap.size w wr) := hb
        have HC : Hid (Cel (fun k => w.heap.size < k) wr 1 (.slice la m lc) m (rowC strC L) lg) := hC
        by_cases hjm : j < m
        · have hjL : j < L.length := by rw [HL.out]; exact hjm
          obtain ⟨lb, rfl, rfl, hce⟩ := hC.elem wideS hjL HL.out
          have ce := hce 0 _ rfl
          rw [Nat.mul_one, Nat.add_zero] at ce
          have hsz := HLS.out _ (List.getElem_mem hjL)
          have hnx : ∀ q, cntT (L.take (j + 1)) q = cntT (L.take j) q + if L[j] = q then 1 else 0 := fun q => by
            rw [List.take_succ_eq_append_getElem hjL, cntT_app, cntT_one]
          have HNX : Hid _ := hnx
          clear hnx hce hC hb
          generalize L[j] = s at *
          obtain ⟨D, hown, hat⟩ := hH.ex
          have hkey := WideMaps.keyOf_string_mk (P := Try.prog) Try.underlying9 (s := s) (by unfold maxLen; omega)
          obtain ⟨F, hF⟩ : ∃ F, cntL (xs.take i) s + cntT (L.take j) s = F := ⟨_, rfl⟩
          have hF7 : F ≤ 67 := by
            have h1 := cnt_le (xs.take i) s
            rw [List.length_take] at h1
            have h2 : cntT (L.take j) s ≤ (L.take j).length := List.length_filter_le _ _
            rw [List.length_take] at h2
            omega
          have HAT : Hid (∀ q : ByteArray, D.atKey (.string q.data.toList) (.lit (.int .i64 0)) = .lit (.int .i64 ((cntL (xs.take i) q + cntT (L.take j) q : Nat) : Int))) := hat
          have hats : ∀ c : Int, D.atKey (.string s.data.toList) (.lit (.int .i64 0)) = .lit (.int .i64 c) → c = (F : Int) := fun c hc => by
            have h1 := HAT.out s
            rw [hF, hc] at h1
            simpa using h1
          have HATS : Hid _ := hats
          have HF : Hid (cntL (xs.take i) s + cntT (L.take j) s = F) := hF
          have HPUT : Hid (∀ w3, w3.ownsMap Try.prog 9 (plainElem Try.prog 3) w.heap.size (7 * i + j + 1) (D.put (.string s.data.toList) (.lit (.int .i64 ((F + 1 : Nat) : Int)))) → wr.mapTurned w3 w.heap.size → Held w3 w.heap.size (7 * i + (j + 1)) (fun q => cntL (xs.take i) q + cntT (L.take (j + 1)) q) ∧ Cel (fun k => w.heap.size < k) w3 1 (.slice (some ⟨lb, 0, none⟩) m lc) m (rowC strC L) (some lb) ∧ Below w.heap.size w w3) := fun w3 ho ht => by
            refine ⟨(Held.put hown.isMap HAT.out s (F + 1) ho).as (fun q => ?_), HC.out.stay ht.grown.size (fun k hk => ?_) (fun _ e => e), HB.out.trans (turned_below ht (by have := hH.lt; omega) (Nat.le_refl _))⟩
            · rw [HNX.out]
              by_cases e : q = s
              · subst e
                rw [if_pos rfl, if_pos rfl, ← HF.out]; omega
              · rw [if_neg e, if_neg (fun e2 => e e2.symm)]; omega
            · cases hk
              have := HC.out.lt
              exact turned_block ht this.1 (by omega)
          have hfv : plainElem (H := Value) Try.prog 3 (.int .i64 ((F : Int) + 1)) = some (.lit (.int .i64 ((F + 1 : Nat) : Int)), []) := by
            have := plainElem_int (H := Value) (P := Try.prog) Try.underlying3 (wf64 (n := F + 1) (by omega))
            rw [← this]; congr 2
          have hmax : 7 * i + j < maxLen := by unfold maxLen; omega
          clear hat hats hF
          go_wp2_with (first
            | (at_lookup; refine wpList_lookup_own_int _ rfl _ _ 42 rfl 9 3 .i64 lawK Try.underlying42 Try.underlying3 (zeroI _) w.heap.size _ D rfl hown _ _ rfl hkey ?_; intro cc hcc hwc; obtain rfl := HATS.out cc hcc; clear hcc hwc)
            | (at_mapUpdate; refine wpList_mapUpdate_in _ rfl _ _ _ 42 rfl 9 3 lawK Try.underlying42 (plainElem Try.prog 3) w.heap.size _ D rfl hown hmax _ _ _ rfl rfl hkey _ [] hfv ?_; intro w3 ho3 ht3; have HX : Hid _ := HPUT.out w3 ho3 ht3; clear ho3 ht3))
          go_roundw
          case rel => exact ⟨j + 1, by omega, by go_num, HX.out.1, HX.out.2.1, HX.out.2.2⟩
          case measure => simp [intOf]; omega
        · obtain rfl : j = m := by omega
          have hgd : decide ((j : Int) < (j : Int)) = false := decide_eq_false (by omega)
          have HN : Hid (Held wr w.heap.size (7 * (i + 1)) (cntL (xs.take (i + 1)))) := (hH.mono (by omega)).as (fun q => by rw [HCS.out, List.take_of_length_le (l := L) (by rw [HL.out]; omega)])
          clear hH hC hb hjm
          go_wp2
          go_roundw
          case rel => exact ⟨i + 1, by omega, by go_num, HN.out, HB.out⟩
          case measure => simp [intOf]; omega
    · obtain rfl : i = n := by omega
      have hgd : decide ((i : Int) < (i : Int)) = false := decide_eq_false (by omega)
      have HN : Hid (Held wr w.heap.size 420 (cntL xs)) := (hH.mono (by omega)).as (fun q => by rw [List.take_of_length_le (by rw [← HM.out, List.length_map, HP.out]; omega)])
      clear hb hH hlt HH
      go_wp2
      go_ret
      exact ⟨⟨w.heap.size, rfl, Nat.le_refl _, HN.out⟩, HB.out⟩

end Go.Proofs.Ytlfehfajaelmlaa
