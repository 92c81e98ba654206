/- Part 30 of the proof: LogN, LogY1, LogY2. -/
import Derived.Test.YtfmhmokbbkliaaaGreatB02
import Derived.Test.YtfmhmokbbkliaaaGreatB19
import Derived.Test.YtfmhmokbbkliaaaGreatB22
import Derived.Test.YtfmhmokbbkliaaaGreatB26
import Derived.Deep.RegionHeld3

/- The contracts of tabulariumref14.Right, one, Bytes. -/
namespace Go.Proofs.YtfmhmokbbkliaaaGreat.Lgg
open Go.RowKit Go.Proofs.YtfmhmokbbkliaaaGreat
open Go.Proofs.YtfmhmokbbkliaaaGreat.Wir (numB refNum_any)
open Go.Proofs.YtfmhmokbbkliaaaGreat.Smm (sealB refSeal_yes)
set_option linter.unusedVariables false

set_option maxRecDepth 100000 in
set_option maxHeartbeats 2000000 in
theorem refRight_val {O : Nat → Prop} {w : World} {a : Option Addr} {es : List En} (h : Lie enC O w a es) (hd : ∀ x ∈ es, x.d.size ≤ maxLen) (ep : Int) (n c : Nat) (hn : es.length = n) (v : Bool) (hv : v = true ↔ RtL ⟨ep, es⟩) :
    Calls Tryz.prog 46 #[.agg #[.int .i64 ep, .slice a n c]] w fun e w' => e = .returned (.bool v) ∧ Below w.heap.size w w' := by
  have hlid := h.lid
  rw [hn] at hlid
  unfold maxLen at hlid
  have HD : Hid (∀ x ∈ es, x.d.size ≤ maxLen) := hd
  have HN : Hid (es.length = n) := hn
  have HV : Hid (v = true ↔ RtL ⟨ep, es⟩) := hv
  have HH : Hid (Lie enC O (w.alloc (.cells #[.int .i64 ep, .slice a n c] 34)) a es) := h.below (bel_al _ _)
  clear h hd hn hv
  by_cases h0 : ep < 0
  · have hvf : v = false := by
      cases v with
      | false => rfl
      | true => have := ep_in (HV.out.1 rfl).1; simp only at this; omega
    subst hvf
    clear HV
    go_enter Tryz.func46, Tryz.ntmps46
    go_wp2
    go_ret
    exact ⟨rfl, bel_al _ _⟩
  · by_cases h1 : 9007199254740991 < ep
    · have hvf : v = false := by
        cases v with
        | false => rfl
        | true => have := ep_in (HV.out.1 rfl).1; simp only at this; omega
      subst hvf
      clear HV
      go_enter Tryz.func46, Tryz.ntmps46
      go_wp2
      go_ret
      exact ⟨rfl, bel_al _ _⟩
    · by_cases h300 : 300 < n
      · have hvf : v = false := by
          cases v with
          | false => rfl
          | true => have h1 := (HV.out.1 rfl).2.1; have h2 := HN.out; simp only at h1; omega
        subst hvf
        clear HV
        go_enter Tryz.func46, Tryz.ntmps46
        go_wp2
        go_ret
        exact ⟨rfl, bel_al _ _⟩
      · have HV2 : Hid (v = true ↔ RtE es) := by
          show v = true ↔ RtE es
          rw [HV.out]
          exact ⟨fun h => h.2.2, fun h => ⟨by unfold epOk maxN; simp; omega, by have := HN.out; simp only; omega, h⟩⟩
        clear HV
        have y1 : (w.alloc (.cells #[.int .i64 ep, .slice a n c] 34)).cell? ⟨w.heap.size, 1, none⟩ = some (.slice a n c) := World.cell?_alloc_new w _ _ 1
        have B0 : Hid (Below w.heap.size w (w.alloc (.cells #[.int .i64 ep, .slice a n c] 34))) := bel_al _ _
        go_enter Tryz.func46, Tryz.ntmps46
        go_wp2
        generalize w.alloc (.cells #[.int .i64 ep, .slice a n c] 34) = W1 at *
        go_loopw [3] (fun u wr => ∃ i : Nat, i ≤ n ∧ u = .int .i64 i ∧ wr = W1 ∧ ∀ j (hj : j < es.length), j < i → enOk j es[j]) (fun u _ => n - (intOf u).toNat)
        case atStart => exact ⟨0, by omega, rfl, rfl, fun j _ h => by omega⟩
        case round =>
          obtain ⟨i, hi, rfl, rfl, hall⟩ := hrel
          have HA : Hid (∀ j (hj : j < es.length), j < i → enOk j es[j]) := hall
          clear hall
          by_cases hlt : i < n
          · have hie : i < es.length := by rw [HN.out]; exact hlt
            obtain ⟨b, off, rfl, hc⟩ := HH.out.at wideN hie
            have hdd := HD.out _ (List.getElem_mem hie)
            have hno : ¬ enOk i es[i] → v = false := fun hno => by
              cases v with
              | false => rfl
              | true => exact absurd (HV2.out.1 rfl i hie) hno
            have HNX : Hid (enOk i es[i] → ∀ j (hj : j < es.length), j < i + 1 → enOk j es[j]) := fun hk j hj hji => by
              rcases Nat.lt_or_ge j i with h | h
              · exact HA.out j hj h
              · obtain rfl : j = i := by omega
                exact hk
            generalize es[i] = x at *
            obtain ⟨tx, d⟩ := x
            have q0 : wr.cell? ⟨b, off + i * 2, none⟩ = some (.int .i64 tx) := hc 0 _ rfl
            have q1 : wr.cell? ⟨b, off + i * 2 + 1, none⟩ = some (.string d) := hc 1 _ rfl
            simp only at hdd
            unfold maxLen at hdd
            clear hc
            by_cases hx : tx = ((i + 1 : Nat) : Int)
            · have hx2 : tx = (i : Int) + 1 := by omega
              by_cases hdv : d.size ≤ 600
              · have HK : Hid (∀ j (hj : j < es.length), j < i + 1 → enOk j es[j]) := HNX.out ⟨hx, hdv⟩
                clear hno HNX hx
                go_wp2
                go_roundw
                case rel => exact ⟨i + 1, by omega, by go_num, by first | rfl | trivial, HK.out⟩
                case measure => simp [intOf]; omega
              · have hvf := hno (fun hk => hdv hk.2)
                subst hvf
                clear hno HNX hx HV2
                go_wp2
                go_ret
                exact ⟨rfl, B0.out⟩
            · have hvf := hno (fun hk => hx hk.1)
              subst hvf
              have hx2 : ¬ tx = (i : Int) + 1 := fun h => hx (by omega)
              clear hno HNX hx HV2
              go_wp2
              go_ret
              exact ⟨rfl, B0.out⟩
          · have hvt : v = true := HV2.out.2 (fun j hj => HA.out j hj (by have := HN.out; omega))
            subst hvt
            clear HV2 HA
            go_wp2
            go_ret
            exact ⟨rfl, B0.out⟩

theorem refNum_val (n : Int) (w : World) (h0 : -9223372036854775808 ≤ n) (h1 : n ≤ 9223372036854775807) : Calls Tryz.prog 90 #[.int .i64 n] w fun e w' => e = .returned (.string (numT n)) ∧ Below w.heap.size w w' :=
  (refNum_any n w h0 h1).mono fun e w' h => ⟨h.1, h.2⟩

set_option maxRecDepth 100000 in
theorem refOne_val (x : En) (w : World) (h0 : -9223372036854775808 ≤ x.tx) (h1 : x.tx ≤ 9223372036854775807) (hd : x.d.size ≤ 600) : Calls Tryz.prog 129 #[.agg #[.int .i64 x.tx, .string x.d]] w fun e w' => e = .returned (.string (encE x)) ∧ Below w.heap.size w w' := by
  have hz := numT_size h0 h1
  obtain ⟨tx, d⟩ := x
  simp only at h0 h1 hd hz ⊢
  have ha := fun (w : World) => run_string_add_sum (P := Tryz.prog) w (numT tx) d (by omega)
  have hm : (numT tx ++ d).size ≤ 4000 := by rw [Wir.app_size]; omega
  have HS := fun W => refSeal_yes (numT tx ++ d) W hm
  have HN : Hid (∀ W, Calls Tryz.prog 90 #[.int .i64 tx] W fun e w' => e = .returned (.string (numT tx)) ∧ Below W.heap.size W w') := fun W => refNum_val tx W h0 h1
  have HS2 : Hid (∀ W, Calls Tryz.prog 128 #[.string (numT tx ++ d)] W fun e w' => e = .returned (.tuple #[.string (encE ⟨tx, d⟩), .bool true]) ∧ Below W.heap.size W w') := HS
  clear hm hz h0 h1 hd HS
  obtain ⟨q0, q1, _, _⟩ := cells2 w (.int .i64 tx) (.string d) 24
  have B0 : Hid (Below w.heap.size w (w.alloc (.cells #[.int .i64 tx, .string d] 24))) := bel_al _ _
  obtain ⟨R, hR⟩ : ∃ R, w.heap.size = R := ⟨_, rfl⟩
  rw [hR] at q0 q1
  have HR : Hid (w.heap.size = R) := hR
  go_enter Tryz.func129, Tryz.ntmps129
  go_wp2_with fail
  clear hR
  generalize w.alloc (.cells #[.int .i64 tx, .string d] 24) = W1 at *
  go_region_held3 (fun w' => w'.cell? ⟨R, 0, none⟩ = some (.int .i64 tx) ∧ w'.cell? ⟨R, 1, none⟩ = some (.string d))
    (first | (refine ⟨bel_cell KB.out q0, bel_cell KB.out q1⟩; done) | go_keep)
    (first
      | (go_at_call 90; refine (HN.out _).mono ?_; rintro x w1 ⟨rfl, b1⟩; have KB : Hid (Below W1.heap.size W1 w1) := (by first | exact b1 | exact kb1 b1); clear b1)
      | (go_at_call 128; refine (HS2.out _).mono ?_; rintro x w2 ⟨rfl, b2⟩; replace KB : Hid (Below W1.heap.size W1 w2) := (by first | exact bel_tr KB.out b2 | exact kb3 KB.out b2); clear b2))
  all_goals
    go_wp2
    go_ret
    exact ⟨rfl, bel_tr B0.out KB.out⟩

set_option maxRecDepth 100000 in
set_option maxHeartbeats 2000000 in
theorem refBytes_no {O : Nat → Prop} {w : World} {a : Option Addr} {es : List En} (h : Lie enC O w a es) (hd : ∀ x ∈ es, x.d.size ≤ maxLen) (ep : Int) (n c : Nat) (hn : es.length = n) (hv : ¬ RtL ⟨ep, es⟩) :
    Calls Tryz.prog 101 #[.agg #[.int .i64 ep, .slice a n c]] w fun e w' => e = .returned (.tuple #[.string ⟨#[]⟩, .bool false]) ∧ Below w.heap.size w w' := by
  have HR : Hid (∀ W, Below w.heap.size w W → Calls Tryz.prog 46 #[.agg #[.int .i64 ep, .slice a n c]] W fun e w' => e = .returned (.bool false) ∧ Below w.heap.size w w') := fun W hb => (refRight_val (h.below hb) hd ep n c hn false ⟨(fun e => by cases e), fun e => absurd e hv⟩).mono fun e w' ⟨k1, k2⟩ => ⟨k1, bel_tr hb k2⟩
  clear h hd hn hv
  go_enter Tryz.func101, Tryz.ntmps101
  go_wp2_with (go_at_call 46; refine (HR.out _ (bel_al _ _)).mono ?_; rintro e w1 ⟨rfl, b1⟩)
  go_ret2
  exact ⟨rfl, b1⟩

set_option maxRecDepth 100000 in
set_option maxHeartbeats 4000000 in
theorem refBytes_yes {O : Nat → Prop} {w : World} {a : Option Addr} {es : List En} (h : Lie enC O w a es) (ep : Int) (n c : Nat) (hn : es.length = n) (hv : RtL ⟨ep, es⟩) (J : ByteArray) (hJ : encL ⟨ep, es⟩ = J) :
    Calls Tryz.prog 101 #[.agg #[.int .i64 ep, .slice a n c]] w fun e w' => e = .returned (.tuple #[.string J, .bool true]) ∧ Below w.heap.size w w' := by
  have hEach := hv.each
  have hep := ep_in hv.1
  simp only at hep
  have hn300 : n ≤ 300 := by have := hv.2.1; simp only at this; omega
  have HR : Hid (∀ W, Below w.heap.size w W → Calls Tryz.prog 46 #[.agg #[.int .i64 ep, .slice a n c]] W fun e w' => e = .returned (.bool true) ∧ Below W.heap.size W w') := fun W hb => refRight_val (h.below hb) (fun x hx => by
    obtain ⟨i, hi, rfl⟩ := List.mem_iff_getElem.1 hx
    have := (hEach i hi).2.2
    unfold maxLen; omega) ep n c hn true ⟨fun _ => hv, fun _ => rfl⟩
  have HL : Hid (∀ k, k ≤ es.length → (upE ep es k).length ≤ 24 + k * 624) := upE_len ep es (by omega) (by omega) hEach
  obtain ⟨SH, hSH⟩ : ∃ S, sealB (numT ep) = S := ⟨_, rfl⟩
  have hSz : (numT ep).size ≤ 4000 := by have := numT_size (n := ep) (by omega) (by omega); omega
  have HS : Hid (∀ W, Calls Tryz.prog 128 #[.string (numT ep)] W fun e w' => e = .returned (.tuple #[.string SH, .bool true]) ∧ Below W.heap.size W w') := fun W => by
    have := refSeal_yes (numT ep) W hSz
    rw [hSH] at this; exact this
  have HM : Hid (∀ W, Calls Tryz.prog 90 #[.int .i64 ep] W fun e w' => e = .returned (.string (numT ep)) ∧ Below W.heap.size W w') := fun W => refNum_val ep W (by omega) (by omega)
  have hU0 : (⟨(upE ep es 0).toArray⟩ : ByteArray) = SH := by rw [upE_zero, hSH]
  have HU0 : Hid ((⟨(upE ep es 0).toArray⟩ : ByteArray) = SH) := hU0
  have HUA : Hid ((⟨(upE ep es n).toArray⟩ : ByteArray) = J) := by rw [← hn, upE_all, hJ]; exact rfl
  have HUN : Hid (∀ k (hk : k < es.length), upE ep es (k + 1) = upE ep es k ++ (encE es[k]).data.toList) := fun k hk => upE_next ep es k hk
  have HEA : Hid (∀ i (hi : i < es.length), -9223372036854775808 ≤ es[i].tx ∧ es[i].tx ≤ 9223372036854775807 ∧ es[i].d.size ≤ 600) := hEach
  have HH : Hid (Lie enC O w a es) := h
  have HN : Hid (es.length = n) := hn
  clear h hEach hep hn hv hJ hSH hSz hU0
  go_enter Tryz.func101, Tryz.ntmps101
  go_wp2_with fail
  refine (HR.out _ (bel_al _ _)).mono ?_
  rintro e w1 ⟨rfl, b1⟩
  have x0 := bel_cell b1 (World.cell?_alloc_new w _ _ 0)
  have x1 := bel_cell b1 (World.cell?_alloc_new w _ _ 1)
  have B1 : Hid (Below w.heap.size w w1) := bel_tr (bel_al _ _) b1
  have X1 : Hid (w1.cell? ⟨w.heap.size, 1, none⟩ = some (.slice a n c)) := x1
  clear b1 HR
  go_wp2_with fail
  refine (HM.out _).mono ?_
  rintro e w2 ⟨rfl, b2⟩
  clear x0 x1 HM
  go_wp2_with fail
  refine (HS.out _).mono ?_
  rintro e w3 ⟨rfl, b3⟩
  have B3 : Hid (Below w1.heap.size w1 w3) := bel_tr b2 b3
  clear HS b2 b3
  go_wp2
  go_loopw [5, 7] (fun v u wr => ∃ k : Nat, k ≤ n ∧ u = .int .i64 k ∧ v = .string ⟨(upE ep es k).toArray⟩ ∧ Below w1.heap.size w1 wr) (fun _ u _ => n - (intOf u).toNat)
  case atStart => exact ⟨0, by omega, rfl, by rw [HU0.out], B3.out⟩
  case round =>
    obtain ⟨k, hk, rfl, rfl, hbel⟩ := hrel
    have HB : Hid (Below w1.heap.size w1 wr) := hbel
    clear B3 hbel
    have y1 := bel_cell HB.out X1.out
    by_cases hlt : k < n
    · have hks : k < es.length := by rw [HN.out]; exact hlt
      obtain ⟨b, off, rfl, hc⟩ := (HH.out.below (bel_tr B1.out HB.out)).at wideN hks
      obtain ⟨k1, k2, k3⟩ := HEA.out k hks
      have hnx := HUN.out k hks
      have hul := HL.out k (by omega)
      generalize es[k] = x at *
      obtain ⟨tx, d⟩ := x
      have q0 : wr.cell? ⟨b, off + k * 2, none⟩ = some (.int .i64 tx) := hc 0 _ rfl
      have q1 : wr.cell? ⟨b, off + k * 2 + 1, none⟩ = some (.string d) := hc 1 _ rfl
      obtain ⟨SN, hSN⟩ : ∃ X, encE ⟨tx, d⟩ = X := ⟨_, rfl⟩
      have hsn := encE_size k1 k2 k3
      rw [hSN] at hsn hnx
      have hcat : (⟨(upE ep es k).toArray⟩ : ByteArray) ++ SN = ⟨(upE ep es (k + 1)).toArray⟩ := by
        apply Go.WideShapes.bytes_inj
        rw [Wir.app_list, hnx]
      have ha := fun (w : World) => run_string_add_sum (P := Tryz.prog) w (⟨(upE ep es k).toArray⟩ : ByteArray) SN (by rw [Wir.mk_size]; omega)
      rw [hcat] at ha
      have CN : Hid (∀ W, Calls Tryz.prog 129 #[.agg #[.int .i64 tx, .string d]] W fun e w' => e = .returned (.string SN) ∧ Below W.heap.size W w') := fun W => by
        have := refOne_val ⟨tx, d⟩ W k1 k2 k3
        rw [hSN] at this; exact this
      clear hc hnx hul hsn hSN hks k1 k2 k3 hcat
      generalize (⟨(upE ep es k).toArray⟩ : ByteArray) = SA at *
      obtain ⟨SB, hSB⟩ : ∃ X : ByteArray, (⟨(upE ep es (k + 1)).toArray⟩ : ByteArray) = X := ⟨_, rfl⟩
      have HSB : Hid ((⟨(upE ep es (k + 1)).toArray⟩ : ByteArray) = SB) := hSB
      rw [hSB] at ha
      clear hSB
      go_wp2_with (go_at_call 129; refine (CN.out _).mono ?_; rintro e w5 ⟨rfl, b5⟩; have B5 : Hid (Below w1.heap.size w1 w5) := bel_tr HB.out b5; clear b5)
      go_roundw
      case rel => exact ⟨k + 1, by omega, by go_num, by rw [HSB.out], B5.out⟩
      case measure => simp [intOf]; omega
    · have hkl : k = n := by omega
      subst hkl
      have hJ2 := HUA.out
      rw [hJ2]
      have hgd : decide ((k : Int) < (k : Int)) = false := decide_eq_false (by omega)
      clear hlt hJ2
      go_wp2
      go_ret2
      exact ⟨rfl, bel_tr B1.out HB.out⟩

end Go.Proofs.YtfmhmokbbkliaaaGreat.Lgg

/- The document's disk beside blocks that are kept; what a call leaves fits; the contract of tabulariumref14.Place. -/
namespace Go.Proofs.YtfmhmokbbkliaaaGreat.Lgg
open Go.RowKit Go.Proofs.YtfmhmokbbkliaaaGreat
set_option linter.unusedVariables false

/-! ### what a call leaves fits -/
structure FitF (S : FS) : Prop where
  rise : Rise S
  name : ∀ p ∈ S, 1 ≤ p.1.length ∧ p.1.length ≤ 30
  data : ∀ p ∈ S, p.2.1.length ≤ 400000 ∧ p.2.2 ≤ p.2.1.length
  most : S.length ≤ 20
theorem fit_beg {ds : DS} (h : Fit ds) (e : Int) : Fit (begD ds e) := by
  obtain ⟨h1, h2, h3, h4, h5, h6⟩ := h
  unfold begD
  split
  · exact ⟨h1, h2, h3, h4, h5, h6⟩
  · split
    · rename_i k
      split
      · exact ⟨h1, h2, h3, h4, h5, by show (0 : Int) ≤ 0 ∧ (0 : Int) < _; omega⟩
      · exact ⟨h1, h2, h3, h4, h5, by have := k.2; show 0 ≤ ds.fuse - 1 ∧ ds.fuse - 1 < _; omega⟩
    · exact ⟨h1, h2, h3, h4, h5, h6⟩
theorem fit_do {ds : DS} (h : Fit ds) (e : Int) (f : FS → FS) (hf : begE ds e = 0 → FitF (f ds.S)) : Fit (doD ds e f) := by
  have hb := fit_beg h e
  unfold doD
  split
  · rename_i k
    obtain ⟨k1, k2, k3, k4⟩ := hf k
    exact ⟨k1, k2, k3, k4, hb.r0, hb.fu⟩
  · exact hb
theorem fit_put {S : FS} (h : FitF S) (n : List UInt8) (f : List UInt8 × Nat) (hn : 1 ≤ n.length ∧ n.length ≤ 30) (hd : f.1.length ≤ 400000 ∧ f.2 ≤ f.1.length) (hm : (fget S n).isNone → S.length < 20) : FitF (fput S n f) := by
  refine ⟨rise_fput h.rise n f, fun p hp => ?_, fun p hp => ?_, ?_⟩
  · rcases mem_fput.1 hp with rfl | ⟨hp, _⟩
    · exact hn
    · exact h.name p hp
  · rcases mem_fput.1 hp with rfl | ⟨hp, _⟩
    · exact hd
    · exact h.data p hp
  · have h1 := len_fput h.rise n f
    have h2 := h.most
    cases hg : fget S n with
    | none => rw [hg] at h1 hm; have := hm rfl; simp at h1; omega
    | some x => rw [hg] at h1; simp at h1; omega
theorem fit_files {ds : DS} (h : Fit ds) : FitF ds.S := ⟨h.rise, h.name, h.data, h.most⟩
theorem fitF_del {S : FS} (h : FitF S) (n : List UInt8) : FitF (fdel S n) :=
  ⟨rise_fdel h.rise n, fun p hp => h.name p (mem_fdel.1 hp).1, fun p hp => h.data p (mem_fdel.1 hp).1, Nat.le_trans (List.length_filter_le _ _) h.most⟩
theorem fit_append {ds : DS} (h : Fit ds) (n d : List UInt8) : Fit (doD ds (refA ds n d) (fapp n d)) := fit_do h _ _ fun k => by
  obtain ⟨k1, k2, k3, k4⟩ := refA_zero (begE_zero k)
  rw [fapp_eq]
  rw [flen_eq] at k2
  refine fit_put (fit_files h) _ _ (nameOk_iff k1) ⟨by rw [List.length_append]; exact k2, ?_⟩ k3
  unfold fsy fdat
  cases hg : fget ds.S n with
  | none => simp
  | some f => have := (h.data _ (fget_mem hg)).2; simp at this ⊢; omega
theorem fit_sync {ds : DS} (h : Fit ds) (n : List UInt8) : Fit (doD ds (refM ds.S n) (fsyn n)) := fit_do h _ _ fun k => by
  obtain ⟨f, hf⟩ := refM_zero (begE_zero k)
  unfold fsyn
  rw [hf]
  have hm := fget_mem hf
  exact fit_put (fit_files h) _ _ (h.name _ hm) ⟨(h.data _ hm).1, Nat.le_refl _⟩ (fun e => by rw [hf] at e; cases e)
theorem fit_delete {ds : DS} (h : Fit ds) (n : List UInt8) : Fit (doD ds (refM ds.S n) (fun S => fdel S n)) := fit_do h _ _ fun _ => fitF_del (fit_files h) n
theorem fit_rename {ds : DS} (h : Fit ds) (a b : List UInt8) : Fit (doD ds (refR ds.S a b) (fren a b)) := fit_do h _ _ fun k => by
  obtain ⟨hb, f, hf⟩ := refR_zero (begE_zero k)
  unfold fren
  rw [hf]
  have hm := fget_mem hf
  refine fit_put (fitF_del (fit_files h) a) _ _ (nameOk_iff hb) (h.data _ hm) (fun _ => ?_)
  have h1 := len_fdel h.rise a
  rw [hf] at h1
  simp at h1
  have := h.most
  omega
theorem rdE_cases (ds : DS) (n : List UInt8) : rdE ds n = 0 ∨ rdE ds n = 5 ∨ rdE ds n = 12 := by
  unfold rdE refM
  split
  · exact .inr (.inr rfl)
  · split
    · exact .inl rfl
    · exact .inr (.inl rfl)

/-! ### the document's disk -/
/-- The document's disk, made since w0; the blocks of K are others'. -/
structure Xk (w0 : World) (K : Nat → Prop) (w : World) (px : Nat) (ds : DS) : Prop where
  ex : ∃ O a c g, RAt O w px a c g ds ∧ (∀ k, O k → w0.heap.size ≤ k ∧ ¬ K k) ∧ Below w0.heap.size w0 w ∧ ∀ k, K k → k < w.heap.size
  fit : Fit ds

section
variable {w0 w w' : World} {K : Nat → Prop} {px : Nat} {ds ds' : DS}
theorem Xk.below (h : Xk w0 K w px ds) (hb : Below w.heap.size w w') : Xk w0 K w' px ds := by
  obtain ⟨O, a, c, g, h1, h2, h3, h4⟩ := h.ex
  exact ⟨⟨O, a, c, g, h1.below hb, h2, bel_tr h3 hb, fun k hk => Nat.lt_of_lt_of_le (h4 k hk) hb.size⟩, h.fit⟩
theorem xk_grow {O : Nat → Prop} {a : Option Addr} {c : Nat} {g : Option Nat} (hl : ∀ k, O k → w0.heap.size ≤ k ∧ ¬ K k) (hb : Below w0.heap.size w0 w) (hK : ∀ k, K k → k < w.heap.size) (hf : Fit ds) (h : RAt (Grow O w w') w' px a c g ds) (hs : Stay O w w') : Xk w0 K w' px ds ∧ Stay (fun k => ¬ K k) w w' :=
  ⟨⟨⟨_, a, c, g, h, fun k hk => hk.elim (hl k) (fun e => ⟨Nat.le_trans hb.size e.1, fun e2 => by have := hK k e2; omega⟩), hb.trans (hs.below hb.size (fun k hk => (hl k hk).1)), fun k hk => Nat.lt_of_lt_of_le (hK k hk) hs.size⟩, hf⟩, Stay.to hs (fun k hk => (hl k hk).2)⟩
theorem xk_append (h : Xk w0 K w px ds) (s d : ByteArray) (hs : s.size ≤ maxLen) (hd : d.size ≤ 140737488355328) (q : Int) (hq : begE ds (refA ds s.data.toList d.data.toList) = q)
    (hds : doD ds (refA ds s.data.toList d.data.toList) (fapp s.data.toList d.data.toList) = ds') :
    Calls Tryz.prog 34 #[.pointer (some ⟨px, 0, none⟩), .string s, .string d] w fun e w' => e = .returned (.int .i64 q) ∧ Xk w0 K w' px ds' ∧ Stay (fun k => ¬ K k) w w' := by
  obtain ⟨O, a, c, g, h1, h2, h3, h4⟩ := h.ex
  have hl : ∀ t : ByteArray, t.data.toList.length = t.size := fun t => Array.length_toList
  have hf : Fit ds' := by rw [← hds]; exact fit_append h.fit _ _
  exact (refAppend_val h1 h.fit s.data.toList d.data.toList (by rw [hl]; exact hs) (by rw [hl]; exact hd) q hq hds).mono fun e w' ⟨e1, ⟨a', c', g', e2⟩, e3⟩ => ⟨e1, xk_grow h2 h3 h4 hf e2 e3⟩
theorem xk_sync (h : Xk w0 K w px ds) (s : ByteArray) (q : Int) (hq : begE ds (refM ds.S s.data.toList) = q) (hds : doD ds (refM ds.S s.data.toList) (fsyn s.data.toList) = ds') :
    Calls Tryz.prog 140 #[.pointer (some ⟨px, 0, none⟩), .string s] w fun e w' => e = .returned (.int .i64 q) ∧ Xk w0 K w' px ds' ∧ Stay (fun k => ¬ K k) w w' := by
  obtain ⟨O, a, c, g, h1, h2, h3, h4⟩ := h.ex
  have hf : Fit ds' := by rw [← hds]; exact fit_sync h.fit _
  exact (refSync_val h1 h.fit s.data.toList q hq hds).mono fun e w' ⟨e1, ⟨a', c', g', e2⟩, e3⟩ => ⟨e1, xk_grow h2 h3 h4 hf e2 e3⟩
theorem xk_delete (h : Xk w0 K w px ds) (s : ByteArray) (q : Int) (hq : begE ds (refM ds.S s.data.toList) = q) (hds : doD ds (refM ds.S s.data.toList) (fun S => fdel S s.data.toList) = ds') :
    Calls Tryz.prog 139 #[.pointer (some ⟨px, 0, none⟩), .string s] w fun e w' => e = .returned (.int .i64 q) ∧ Xk w0 K w' px ds' ∧ Stay (fun k => ¬ K k) w w' := by
  obtain ⟨O, a, c, g, h1, h2, h3, h4⟩ := h.ex
  have hf : Fit ds' := by rw [← hds]; exact fit_delete h.fit _
  exact (refDelete_val h1 h.fit s.data.toList q hq hds).mono fun e w' ⟨e1, ⟨a', c', g', e2⟩, e3⟩ => ⟨e1, xk_grow h2 h3 h4 hf e2 e3⟩
theorem xk_rename (h : Xk w0 K w px ds) (s d : ByteArray) (hd : d.size ≤ maxLen) (q : Int) (hq : begE ds (refR ds.S s.data.toList d.data.toList) = q) (hds : doD ds (refR ds.S s.data.toList d.data.toList) (fren s.data.toList d.data.toList) = ds') :
    Calls Tryz.prog 141 #[.pointer (some ⟨px, 0, none⟩), .string s, .string d] w fun e w' => e = .returned (.int .i64 q) ∧ Xk w0 K w' px ds' ∧ Stay (fun k => ¬ K k) w w' := by
  obtain ⟨O, a, c, g, h1, h2, h3, h4⟩ := h.ex
  have hl : ∀ t : ByteArray, t.data.toList.length = t.size := fun t => Array.length_toList
  have hf : Fit ds' := by rw [← hds]; exact fit_rename h.fit _ _
  exact (refRename_val h1 h.fit s.data.toList d.data.toList (by rw [hl]; exact hd) q hq hds).mono fun e w' ⟨e1, ⟨a', c', g', e2⟩, e3⟩ => ⟨e1, xk_grow h2 h3 h4 hf e2 e3⟩
theorem xk_read (h : Xk w0 K w px ds) (s : ByteArray) (t : ByteArray) (q : Int) (ht : rdT ds s.data.toList = t) (hq : rdE ds s.data.toList = q) :
    Calls Tryz.prog 59 #[.pointer (some ⟨px, 0, none⟩), .string s] w fun e w' => e = .returned (.tuple #[.string t, .int .i64 q]) ∧ w = w' := by
  obtain ⟨O, a, c, g, h1, h2, h3, h4⟩ := h.ex
  exact (refRead_val h1 h.fit s.data.toList t q ht hq).mono fun e w' ⟨e1, e2⟩ => ⟨e1, e2.symm⟩

set_option maxRecDepth 100000 in
set_option maxHeartbeats 4000000 in
theorem refPlace_val (h : Xk w0 K w px ds) (s b : ByteArray) (hs : s.size ≤ 16) (hb : b.size ≤ 140737488355328) (q : Int) (hq : stoR ds s b = (q, ds')) :
    Calls Tryz.prog 106 #[.pointer (some ⟨px, 0, none⟩), .string s, .string b] w fun e w' => e = .returned (.int .i64 q) ∧ Xk w0 K w' px ds' ∧ Stay (fun k => ¬ K k) w w' := by
  have hnz := newN_size s
  have ha := fun (w : World) => run_string_add_sum (P := Tryz.prog) w s ⟨#[46, 110, 101, 119]⟩ (by show s.size + 4 ≤ _; omega)
  have haE : s ++ (⟨#[46, 110, 101, 119]⟩ : ByteArray) = newN s := rfl
  rw [haE] at ha
  clear haE
  have HH : Hid (Xk w0 K w px ds) := h
  obtain ⟨NS, hNS⟩ : ∃ N, newN s = N := ⟨_, rfl⟩
  unfold stoR at hq
  rw [hNS] at hq ha hnz
  clear hNS
  obtain ⟨t, ht⟩ : ∃ t, rdT ds NS.data.toList = t := ⟨_, rfl⟩
  obtain ⟨r, hr⟩ : ∃ r, rdE ds NS.data.toList = r := ⟨_, rfl⟩
  have hrc := rdE_cases ds NS.data.toList
  have HR : Hid (∀ W, Xk w0 K W px ds → Calls Tryz.prog 59 #[.pointer (some ⟨px, 0, none⟩), .string NS] W fun e w' => e = .returned (.tuple #[.string t, .int .i64 r]) ∧ W = w') := fun W hW => xk_read hW NS t r ht hr
  rw [hr] at hrc
  obtain ⟨⟨e1, d1⟩, hr1⟩ : ∃ x, delR ds NS.data.toList = x := ⟨_, rfl⟩
  rw [hr1] at hq
  unfold delR at hr1
  rw [hr] at hr1
  simp only at hq
  obtain ⟨⟨e2, d2⟩, hr2⟩ : ∃ x, apsR d1 NS.data.toList b.data.toList = x := ⟨_, rfl⟩
  rw [hr2] at hq
  unfold apsR at hr2
  simp only at hq
  obtain ⟨x2, hx2⟩ : ∃ x, begE d1 (refA d1 NS.data.toList b.data.toList) = x := ⟨_, rfl⟩
  obtain ⟨y2, hy2⟩ : ∃ x, doD d1 (refA d1 NS.data.toList b.data.toList) (fapp NS.data.toList b.data.toList) = x := ⟨_, rfl⟩
  rw [hx2, hy2] at hr2
  have HA : Hid (∀ W, Xk w0 K W px d1 → Calls Tryz.prog 34 #[.pointer (some ⟨px, 0, none⟩), .string NS, .string b] W fun e w' => e = .returned (.int .i64 x2) ∧ Xk w0 K w' px y2 ∧ Stay (fun k => ¬ K k) W w') := fun W hW => xk_append hW NS b (by unfold maxLen; omega) hb x2 hx2 hy2
  obtain ⟨x3, hx3⟩ : ∃ x, begE y2 (refM y2.S NS.data.toList) = x := ⟨_, rfl⟩
  obtain ⟨y3, hy3⟩ : ∃ x, doD y2 (refM y2.S NS.data.toList) (fsyn NS.data.toList) = x := ⟨_, rfl⟩
  rw [hx3, hy3] at hr2
  have HS : Hid (∀ W, Xk w0 K W px y2 → Calls Tryz.prog 140 #[.pointer (some ⟨px, 0, none⟩), .string NS] W fun e w' => e = .returned (.int .i64 x3) ∧ Xk w0 K w' px y3 ∧ Stay (fun k => ¬ K k) W w') := fun W hW => xk_sync hW NS x3 hx3 hy3
  obtain ⟨x4, hx4⟩ : ∃ x, begE d2 (refR d2.S NS.data.toList s.data.toList) = x := ⟨_, rfl⟩
  obtain ⟨y4, hy4⟩ : ∃ x, doD d2 (refR d2.S NS.data.toList s.data.toList) (fren NS.data.toList s.data.toList) = x := ⟨_, rfl⟩
  rw [hx4, hy4] at hq
  have HN : Hid (∀ W, Xk w0 K W px d2 → Calls Tryz.prog 141 #[.pointer (some ⟨px, 0, none⟩), .string NS, .string s] W fun e w' => e = .returned (.int .i64 x4) ∧ Xk w0 K w' px y4 ∧ Stay (fun k => ¬ K k) W w') := fun W hW => xk_rename hW NS s (by unfold maxLen; omega) x4 hx4 hy4
  obtain ⟨x0, hx0⟩ : ∃ x, begE ds (refM ds.S NS.data.toList) = x := ⟨_, rfl⟩
  obtain ⟨y0, hy0⟩ : ∃ x, doD ds (refM ds.S NS.data.toList) (fun S => fdel S NS.data.toList) = x := ⟨_, rfl⟩
  rw [hx0, hy0] at hr1
  have HD : Hid (∀ W, Xk w0 K W px ds → Calls Tryz.prog 139 #[.pointer (some ⟨px, 0, none⟩), .string NS] W fun e w' => e = .returned (.int .i64 x0) ∧ Xk w0 K w' px y0 ∧ Stay (fun k => ¬ K k) W w') := fun W hW => xk_delete hW NS x0 hx0 hy0
  clear h ht hr hx2 hy2 hx3 hy3 hx4 hy4 hx0 hy0 hs hb hnz
  -- the ways: how the deletion ends, and the rest
  have hways : (r = 12 ∧ q = 12 ∧ ds' = ds) ∨ (r = 0 ∧ ¬ x0 = 0 ∧ q = x0 ∧ ds' = y0) ∨ ((r = 5 ∧ d1 = ds ∨ r = 0 ∧ x0 = 0 ∧ d1 = y0) ∧ ((¬ x2 = 0 ∧ q = x2 ∧ ds' = y2) ∨ (x2 = 0 ∧ ¬ x3 = 0 ∧ q = x3 ∧ ds' = y3) ∨ (x2 = 0 ∧ x3 = 0 ∧ d2 = y3 ∧ q = x4 ∧ ds' = y4))) := by
    have hrest : e1 = 0 → ((¬ x2 = 0 ∧ q = x2 ∧ ds' = y2) ∨ (x2 = 0 ∧ ¬ x3 = 0 ∧ q = x3 ∧ ds' = y3) ∨ (x2 = 0 ∧ x3 = 0 ∧ d2 = y3 ∧ q = x4 ∧ ds' = y4)) := fun h0 => by
      rw [if_pos h0] at hq
      by_cases h2 : x2 = 0
      · rw [if_pos h2, Prod.mk.injEq] at hr2
        obtain ⟨he, hd⟩ := hr2
        by_cases h3 : x3 = 0
        · rw [if_pos (by omega), Prod.mk.injEq] at hq
          exact .inr (.inr ⟨h2, h3, hd.symm, hq.1.symm, hq.2.symm⟩)
        · rw [if_neg (by omega), Prod.mk.injEq] at hq
          exact .inr (.inl ⟨h2, h3, by omega, hq.2.symm.trans hd.symm⟩)
      · rw [if_neg h2, Prod.mk.injEq] at hr2
        obtain ⟨he, hd⟩ := hr2
        rw [if_neg (by omega), Prod.mk.injEq] at hq
        exact .inl ⟨h2, by omega, hq.2.symm.trans hd.symm⟩
    rcases hrc with hr0 | hr5 | hr12
    · rw [if_neg (by omega), if_pos hr0, Prod.mk.injEq] at hr1
      obtain ⟨he, hd⟩ := hr1
      by_cases h0 : x0 = 0
      · exact .inr (.inr ⟨.inr ⟨hr0, h0, hd.symm⟩, hrest (by omega)⟩)
      · rw [if_neg (by omega), Prod.mk.injEq] at hq
        exact .inr (.inl ⟨hr0, h0, by omega, hq.2.symm.trans hd.symm⟩)
    · rw [if_pos hr5, Prod.mk.injEq] at hr1
      obtain ⟨he, hd⟩ := hr1
      exact .inr (.inr ⟨.inl ⟨hr5, hd.symm⟩, hrest he.symm⟩)
    · rw [if_neg (by omega), if_neg (by omega), Prod.mk.injEq] at hr1
      obtain ⟨he, hd⟩ := hr1
      rw [if_neg (by omega), Prod.mk.injEq] at hq
      exact .inl ⟨hr12, by omega, hq.2.symm.trans hd.symm⟩
  clear hq hr1 hr2 hrc
  rcases hways with ⟨rfl, rfl, rfl⟩ | ⟨rfl, hx, rfl, rfl⟩ | ⟨hd | hd, hrest⟩
  · go_enter Tryz.func106, Tryz.ntmps106
    go_wp2_with fail
    refine (HR.out _ HH.out).mono ?_
    rintro e w1 ⟨rfl, rfl⟩
    go_wp2
    go_ret
    exact ⟨rfl, HH.out, Stay.of_bel (Below.refl _ _)⟩
  · go_enter Tryz.func106, Tryz.ntmps106
    go_wp2_with fail
    refine (HR.out _ HH.out).mono ?_
    rintro e w1 ⟨rfl, rfl⟩
    go_wp2_with fail
    refine (HD.out _ HH.out).mono ?_
    rintro e w2 ⟨rfl, h2, s2⟩
    go_wp2
    go_ret
    exact ⟨rfl, h2, s2⟩
  · obtain ⟨rfl, rfl⟩ := hd
    rcases hrest with ⟨h2, rfl, rfl⟩ | ⟨rfl, h3, rfl, rfl⟩ | ⟨rfl, rfl, rfl, rfl, rfl⟩
    · go_enter Tryz.func106, Tryz.ntmps106
      go_wp2_with fail
      refine (HR.out _ HH.out).mono ?_
      rintro e w1 ⟨rfl, rfl⟩
      go_wp2_with fail
      refine (HA.out _ HH.out).mono ?_
      rintro e w2 ⟨rfl, h2, s2⟩
      go_wp2
      go_ret
      exact ⟨rfl, h2, s2⟩
    · go_enter Tryz.func106, Tryz.ntmps106
      go_wp2_with fail
      refine (HR.out _ HH.out).mono ?_
      rintro e w1 ⟨rfl, rfl⟩
      go_wp2_with fail
      refine (HA.out _ HH.out).mono ?_
      rintro e w2 ⟨rfl, h2, s2⟩
      have H2 : Hid (Xk w0 K w2 px y2 ∧ Stay (fun k => ¬ K k) w w2) := ⟨h2, s2⟩
      clear h2 s2
      go_wp2_with fail
      refine (HS.out _ H2.out.1).mono ?_
      rintro e w3 ⟨rfl, h3, s3⟩
      go_wp2
      go_ret
      exact ⟨rfl, h3, Stay.two H2.out.2 s3⟩
    · go_enter Tryz.func106, Tryz.ntmps106
      go_wp2_with fail
      refine (HR.out _ HH.out).mono ?_
      rintro e w1 ⟨rfl, rfl⟩
      go_wp2_with fail
      refine (HA.out _ HH.out).mono ?_
      rintro e w2 ⟨rfl, h2, s2⟩
      have H2 : Hid (Xk w0 K w2 px y2 ∧ Stay (fun k => ¬ K k) w w2) := ⟨h2, s2⟩
      clear h2 s2
      go_wp2_with fail
      refine (HS.out _ H2.out.1).mono ?_
      rintro e w3 ⟨rfl, h3, s3⟩
      have H3 : Hid (Xk w0 K w3 px d2 ∧ Stay (fun k => ¬ K k) w w3) := ⟨h3, Stay.two H2.out.2 s3⟩
      clear h3 s3
      go_wp2_with fail
      refine (HN.out _ H3.out.1).mono ?_
      rintro e w4 ⟨rfl, h4, s4⟩
      go_wp2
      go_ret
      exact ⟨rfl, h4, Stay.two H3.out.2 s4⟩
  · obtain ⟨rfl, rfl, rfl⟩ := hd
    rcases hrest with ⟨h2, rfl, rfl⟩ | ⟨rfl, h3, rfl, rfl⟩ | ⟨rfl, rfl, rfl, rfl, rfl⟩
    · go_enter Tryz.func106, Tryz.ntmps106
      go_wp2_with fail
      refine (HR.out _ HH.out).mono ?_
      rintro e w1 ⟨rfl, rfl⟩
      go_wp2_with fail
      refine (HD.out _ HH.out).mono ?_
      rintro e w5 ⟨rfl, h5, s5⟩
      have H5 : Hid (Xk w0 K w5 px d1 ∧ Stay (fun k => ¬ K k) w w5) := ⟨h5, s5⟩
      clear h5 s5
      go_wp2_with fail
      refine (HA.out _ H5.out.1).mono ?_
      rintro e w2 ⟨rfl, h2, s2⟩
      go_wp2
      go_ret
      exact ⟨rfl, h2, Stay.two H5.out.2 s2⟩
    · go_enter Tryz.func106, Tryz.ntmps106
      go_wp2_with fail
      refine (HR.out _ HH.out).mono ?_
      rintro e w1 ⟨rfl, rfl⟩
      go_wp2_with fail
      refine (HD.out _ HH.out).mono ?_
      rintro e w5 ⟨rfl, h5, s5⟩
      have H5 : Hid (Xk w0 K w5 px d1 ∧ Stay (fun k => ¬ K k) w w5) := ⟨h5, s5⟩
      clear h5 s5
      go_wp2_with fail
      refine (HA.out _ H5.out.1).mono ?_
      rintro e w2 ⟨rfl, h2, s2⟩
      have H2 : Hid (Xk w0 K w2 px y2 ∧ Stay (fun k => ¬ K k) w w2) := ⟨h2, Stay.two H5.out.2 s2⟩
      clear h2 s2
      go_wp2_with fail
      refine (HS.out _ H2.out.1).mono ?_
      rintro e w3 ⟨rfl, h3, s3⟩
      go_wp2
      go_ret
      exact ⟨rfl, h3, Stay.two H2.out.2 s3⟩
    · go_enter Tryz.func106, Tryz.ntmps106
      go_wp2_with fail
      refine (HR.out _ HH.out).mono ?_
      rintro e w1 ⟨rfl, rfl⟩
      go_wp2_with fail
      refine (HD.out _ HH.out).mono ?_
      rintro e w5 ⟨rfl, h5, s5⟩
      have H5 : Hid (Xk w0 K w5 px d1 ∧ Stay (fun k => ¬ K k) w w5) := ⟨h5, s5⟩
      clear h5 s5
      go_wp2_with fail
      refine (HA.out _ H5.out.1).mono ?_
      rintro e w2 ⟨rfl, h2, s2⟩
      have H2 : Hid (Xk w0 K w2 px y2 ∧ Stay (fun k => ¬ K k) w w2) := ⟨h2, Stay.two H5.out.2 s2⟩
      clear h2 s2
      go_wp2_with fail
      refine (HS.out _ H2.out.1).mono ?_
      rintro e w3 ⟨rfl, h3, s3⟩
      have H3 : Hid (Xk w0 K w3 px d2 ∧ Stay (fun k => ¬ K k) w w3) := ⟨h3, Stay.two H2.out.2 s3⟩
      clear h3 s3
      go_wp2_with fail
      refine (HN.out _ H3.out.1).mono ?_
      rintro e w4 ⟨rfl, h4, s4⟩
      go_wp2
      go_ret
      exact ⟨rfl, h4, Stay.two H3.out.2 s4⟩
end

end Go.Proofs.YtfmhmokbbkliaaaGreat.Lgg

/- Store and Add of whatever, of the program and of the reference. -/
namespace Go.Proofs.YtfmhmokbbkliaaaGreat.Lgg
open Go.RowKit Go.Proofs.YtfmhmokbbkliaaaGreat
set_option linter.unusedVariables false

/-- What Store does with a disk. -/
structure StoS (ds : DS) (s : ByteArray) (l : Lg) (q : Int) (ds' : DS) : Prop where
  yes : RtL l → nmOk s = true → stoR ds s (encL l) = (q, ds')
  no : ¬ RtL l ∨ nmOk s = false → q = 1 ∧ ds' = ds
theorem sto_ex (ds : DS) (s : ByteArray) (l : Lg) : ∃ q ds', StoS ds s l q ds' := by
  by_cases h : RtL l ∧ nmOk s = true
  · exact ⟨_, _, ⟨fun _ _ => rfl, fun e => e.elim (fun e => absurd h.1 e) (fun e => by rw [h.2] at e; cases e)⟩⟩
  · refine ⟨1, ds, ⟨fun h1 h2 => absurd ⟨h1, h2⟩ h, fun _ => ⟨rfl, rfl⟩⟩⟩
/-- What Add does with a disk. -/
structure AddS (ds : DS) (s : ByteArray) (x : En) (q : Int) (ds' : DS) : Prop where
  yes : x.d.size ≤ 600 → 1 ≤ x.tx → x.tx ≤ 300 → nmOk s = true → addR ds s (encE x) = (q, ds')
  no : ¬ (x.d.size ≤ 600 ∧ 1 ≤ x.tx ∧ x.tx ≤ 300 ∧ nmOk s = true) → q = 1 ∧ ds' = ds
theorem add_ex (ds : DS) (s : ByteArray) (x : En) : ∃ q ds', AddS ds s x q ds' := by
  by_cases h : x.d.size ≤ 600 ∧ 1 ≤ x.tx ∧ x.tx ≤ 300 ∧ nmOk s = true
  · exact ⟨_, _, ⟨fun _ _ _ _ => rfl, fun e => absurd h e⟩⟩
  · exact ⟨1, ds, ⟨fun h1 h2 h3 h4 => absurd ⟨h1, h2, h3, h4⟩ h, fun _ => ⟨rfl, rfl⟩⟩⟩

section
variable {w0 w : World} {K : Nat → Prop} {pd px : Nat} {ds ds' : DS}

set_option maxRecDepth 100000 in
set_option maxHeartbeats 2000000 in
theorem store_any (h : Dk w0 K w pd ds) (s : ByteArray) (hs : s.size ≤ maxLen) {O : Nat → Prop} {a : Option Addr} {es : List En} (hl : Lie enC O w a es) (hd : ∀ x ∈ es, x.d.size ≤ maxLen) (ep : Int) (n c : Nat) (hn : es.length = n) (q : Int) (hq : StoS ds s ⟨ep, es⟩ q ds') :
    Calls Tryz.prog 103 #[.pointer (some ⟨pd, 0, none⟩), .string s, .agg #[.int .i64 ep, .slice a n c]] w fun e w' => e = .returned (.int .i64 q) ∧ Dk w0 K w' pd ds' ∧ Stay (fun k => ¬ K k) w w' := by
  by_cases hR : RtL ⟨ep, es⟩
  · cases hnm : nmOk s with
    | true => exact store_val h s hnm hl ep n c hn hR q (hq.yes hR hnm)
    | false =>
      obtain ⟨rfl, rfl⟩ := hq.no (.inr hnm)
      obtain ⟨J, hJ⟩ : ∃ J, encL ⟨ep, es⟩ = J := ⟨_, rfl⟩
      have HB : Hid (∀ W, Below w.heap.size w W → Calls Tryz.prog 114 #[.agg #[.int .i64 ep, .slice a n c]] W fun e w' => e = .returned (.tuple #[.string J, .int .i64 0]) ∧ Below W.heap.size W w') := fun W hb => bytes_yes (hl.below hb) ep n c hn hR J hJ
      have HNM : Hid (∀ W, Calls Tryz.prog 135 #[.string s] W fun e w' => e = .returned (.bool false) ∧ w' = W) := fun W => mayBeName_val s false W hs hnm
      have HH : Hid (Dk w0 K w pd ds') := h
      clear h hl hd hn hR hJ hq hnm
      go_enter Tryz.func103, Tryz.ntmps103
      go_wp2_with (first
        | (go_at_call 114; refine (HB.out _ (bel_al _ _)).mono ?_; rintro e w1 ⟨rfl, b1⟩; have B1 : Hid (Below w.heap.size w w1) := bel_tr (bel_al _ _) b1; clear b1)
        | (go_at_call 135; refine (HNM.out _).mono ?_; rintro e w2 ⟨rfl, rfl⟩))
      go_ret
      exact ⟨rfl, HH.out.below B1.out, Stay.of_bel B1.out⟩
  · obtain ⟨rfl, rfl⟩ := hq.no (.inl hR)
    have HB : Hid (∀ W, Below w.heap.size w W → Calls Tryz.prog 114 #[.agg #[.int .i64 ep, .slice a n c]] W fun e w' => e = .returned (.tuple #[.string ⟨#[]⟩, .int .i64 1]) ∧ Below W.heap.size W w') := fun W hb => bytes_no (hl.below hb) hd ep n c hn hR
    have HH : Hid (Dk w0 K w pd ds') := h
    clear h hl hd hn hR hq
    go_enter Tryz.func103, Tryz.ntmps103
    go_wp2_with (first
      | (go_at_call 114; refine (HB.out _ (bel_al _ _)).mono ?_; rintro e w1 ⟨rfl, b1⟩; have B1 : Hid (Below w.heap.size w w1) := bel_tr (bel_al _ _) b1; clear b1))
    go_ret
    exact ⟨rfl, HH.out.below B1.out, Stay.of_bel B1.out⟩

set_option maxRecDepth 100000 in
set_option maxHeartbeats 2000000 in
theorem add_any (h : Dk w0 K w pd ds) (s : ByteArray) (hs : s.size ≤ maxLen) (x : En) (hd : x.d.size ≤ maxLen) (q : Int) (hq : AddS ds s x q ds') :
    Calls Tryz.prog 147 #[.pointer (some ⟨pd, 0, none⟩), .string s, .agg #[.int .i64 x.tx, .string x.d]] w fun e w' => e = .returned (.int .i64 q) ∧ Dk w0 K w' pd ds' ∧ Stay (fun k => ¬ K k) w w' := by
  by_cases hok : x.d.size ≤ 600 ∧ 1 ≤ x.tx ∧ x.tx ≤ 300 ∧ nmOk s = true
  · exact add_val h s hok.2.2.2 x hok.2.1 hok.2.2.1 hok.1 q (hq.yes hok.1 hok.2.1 hok.2.2.1 hok.2.2.2)
  · obtain ⟨rfl, rfl⟩ := hq.no hok
    obtain ⟨tx, d⟩ := x
    simp only at hd hok ⊢
    obtain ⟨vd, hvd⟩ : ∃ v, decide (d.size ≤ 600) = v := ⟨_, rfl⟩
    obtain ⟨vn, hvn⟩ : ∃ v, nmOk s = v := ⟨_, rfl⟩
    have HNM : Hid (∀ W, Calls Tryz.prog 135 #[.string s] W fun e w' => e = .returned (.bool vn) ∧ w' = W) := fun W => mayBeName_val s vn W hs hvn
    have HMD : Hid (∀ W, Calls Tryz.prog 88 #[.string d] W fun e w' => e = .returned (.bool vd) ∧ w' = W) := fun W => mayBeData_val d vd W hd hvd
    have HH : Hid (Dk w0 K w pd ds') := h
    have hways : vd = false ∨ (vd = true ∧ tx < 1) ∨ (vd = true ∧ ¬ tx < 1 ∧ 300 < tx) ∨ (vd = true ∧ ¬ tx < 1 ∧ ¬ 300 < tx ∧ vn = false) := by
      cases vd with
      | false => exact .inl rfl
      | true =>
        have hd6 := of_decide_eq_true hvd
        by_cases h1 : tx < 1
        · exact .inr (.inl ⟨rfl, h1⟩)
        · by_cases h2 : 300 < tx
          · exact .inr (.inr (.inl ⟨rfl, h1, h2⟩))
          · refine .inr (.inr (.inr ⟨rfl, h1, h2, ?_⟩))
            cases vn with
            | false => rfl
            | true => exact absurd ⟨hd6, by omega, by omega, hvn⟩ hok
    clear h hd hq hok hvd hvn
    rcases hways with rfl | ⟨rfl, h1⟩ | ⟨rfl, h1, h2⟩ | ⟨rfl, h1, h2, rfl⟩
    all_goals
      go_enter Tryz.func147, Tryz.ntmps147
      go_wp2_with (first
        | (go_at_call 88; refine (HMD.out _).mono ?_; rintro e w1 ⟨rfl, rfl⟩)
        | (go_at_call 135; refine (HNM.out _).mono ?_; rintro e w2 ⟨rfl, rfl⟩))
      go_ret
      exact ⟨rfl, HH.out.below (bel_al _ _), Stay.of_bel (bel_al _ _)⟩

set_option maxRecDepth 100000 in
set_option maxHeartbeats 2000000 in
theorem refStore_any (h : Xk w0 K w px ds) (s : ByteArray) (hs : s.size ≤ maxLen) {O : Nat → Prop} {a : Option Addr} {es : List En} (hl : Lie enC O w a es) (hd : ∀ x ∈ es, x.d.size ≤ maxLen) (ep : Int) (n c : Nat) (hn : es.length = n) (q : Int) (hq : StoS ds s ⟨ep, es⟩ q ds') :
    Calls Tryz.prog 62 #[.pointer (some ⟨px, 0, none⟩), .string s, .agg #[.int .i64 ep, .slice a n c]] w fun e w' => e = .returned (.int .i64 q) ∧ Xk w0 K w' px ds' ∧ Stay (fun k => ¬ K k) w w' := by
  have HH : Hid (Xk w0 K w px ds) := h
  unfold maxLen at hs
  by_cases hR : RtL ⟨ep, es⟩
  · have hJs : (encL ⟨ep, es⟩).size ≤ 200000 := by
      have := encL_size hR
      have h3 := hR.2.1
      simp only at h3
      omega
    obtain ⟨J, hJ⟩ : ∃ J, encL ⟨ep, es⟩ = J := ⟨_, rfl⟩
    have HB : Hid (∀ W, Below w.heap.size w W → Calls Tryz.prog 101 #[.agg #[.int .i64 ep, .slice a n c]] W fun e w' => e = .returned (.tuple #[.string J, .bool true]) ∧ Below W.heap.size W w') := fun W hb => refBytes_yes (hl.below hb) ep n c hn hR J hJ
    by_cases h1 : s.size < 1
    · have hnm : nmOk s = false := by cases e : nmOk s with | false => rfl | true => exact absurd ((mk_nm s).1 e).1 (by omega)
      obtain ⟨rfl, rfl⟩ := hq.no (.inr hnm)
      clear h hl hd hn hR hJ hJs hq hnm
      go_enter Tryz.func62, Tryz.ntmps62
      go_wp2_with (first
        | (go_at_call 101; refine (HB.out _ (by first | exact bel_al _ _ | exact Below.refl _ _)).mono ?_; rintro e w1 ⟨rfl, b1⟩; have B1 : Hid (Below w.heap.size w w1) := (by first | exact bel_tr (bel_al _ _) b1 | exact b1); clear b1))
      go_ret
      exact ⟨rfl, HH.out.below B1.out, Stay.of_bel B1.out⟩
    · by_cases h2 : 16 < s.size
      · have hnm : nmOk s = false := by cases e : nmOk s with | false => rfl | true => exact absurd ((mk_nm s).1 e).2 (by omega)
        obtain ⟨rfl, rfl⟩ := hq.no (.inr hnm)
        clear h hl hd hn hR hJ hJs hq hnm
        go_enter Tryz.func62, Tryz.ntmps62
        go_wp2_with (first
          | (go_at_call 101; refine (HB.out _ (by first | exact bel_al _ _ | exact Below.refl _ _)).mono ?_; rintro e w1 ⟨rfl, b1⟩; have B1 : Hid (Below w.heap.size w w1) := (by first | exact bel_tr (bel_al _ _) b1 | exact b1); clear b1))
        go_ret
        exact ⟨rfl, HH.out.below B1.out, Stay.of_bel B1.out⟩
      · have hq2 := hq.yes hR ((mk_nm s).2 ⟨by omega, by omega⟩)
        rw [hJ] at hq2 hJs
        have HP : Hid (∀ W, Xk w0 K W px ds → Calls Tryz.prog 106 #[.pointer (some ⟨px, 0, none⟩), .string s, .string J] W fun e w' => e = .returned (.int .i64 q) ∧ Xk w0 K w' px ds' ∧ Stay (fun k => ¬ K k) W w') := fun W hW => refPlace_val hW s J (by omega) (by omega) q hq2
        clear h hl hd hn hR hJ hJs hq hq2
        go_enter Tryz.func62, Tryz.ntmps62
        go_wp2_with (first
          | (go_at_call 101; refine (HB.out _ (by first | exact bel_al _ _ | exact Below.refl _ _)).mono ?_; rintro e w1 ⟨rfl, b1⟩; have B1 : Hid (Below w.heap.size w w1) := (by first | exact bel_tr (bel_al _ _) b1 | exact b1); clear b1)
          | (go_at_call 106; refine (HP.out _ (HH.out.below B1.out)).mono ?_; rintro e w2 ⟨rfl, h3, h4⟩; have H2 : Hid (Xk w0 K w2 px ds' ∧ Stay (fun k => ¬ K k) w w2) := ⟨h3, Stay.two (Stay.of_bel B1.out) h4⟩; clear h3 h4))
        go_ret
        exact ⟨rfl, H2.out.1, H2.out.2⟩
  · obtain ⟨rfl, rfl⟩ := hq.no (.inl hR)
    have HB : Hid (∀ W, Below w.heap.size w W → Calls Tryz.prog 101 #[.agg #[.int .i64 ep, .slice a n c]] W fun e w' => e = .returned (.tuple #[.string ⟨#[]⟩, .bool false]) ∧ Below W.heap.size W w') := fun W hb => refBytes_no (hl.below hb) hd ep n c hn hR
    clear h hl hd hn hR hq
    go_enter Tryz.func62, Tryz.ntmps62
    go_wp2_with (first
      | (go_at_call 101; refine (HB.out _ (by first | exact bel_al _ _ | exact Below.refl _ _)).mono ?_; rintro e w1 ⟨rfl, b1⟩; have B1 : Hid (Below w.heap.size w w1) := (by first | exact bel_tr (bel_al _ _) b1 | exact b1); clear b1))
    go_ret
    exact ⟨rfl, HH.out.below B1.out, Stay.of_bel B1.out⟩

set_option maxRecDepth 100000 in
set_option maxHeartbeats 2000000 in
theorem refAdd_any (h : Xk w0 K w px ds) (s : ByteArray) (hs : s.size ≤ maxLen) (x : En) (hd : x.d.size ≤ maxLen) (q : Int) (hq : AddS ds s x q ds') :
    Calls Tryz.prog 116 #[.pointer (some ⟨px, 0, none⟩), .string s, .agg #[.int .i64 x.tx, .string x.d]] w fun e w' => e = .returned (.int .i64 q) ∧ Xk w0 K w' px ds' ∧ Stay (fun k => ¬ K k) w w' := by
  have HH : Hid (Xk w0 K w px ds) := h
  by_cases hok : x.d.size ≤ 600 ∧ 1 ≤ x.tx ∧ x.tx ≤ 300 ∧ nmOk s = true
  · obtain ⟨k1, k2, k3, k4⟩ := hok
    have hs2 := (mk_nm s).1 k4
    have hJs := encE_size (x := x) (by omega) (by omega) k1
    have HE0 := fun W => refOne_val x W (by omega) (by omega) k1
    have hq2 := hq.yes k1 k2 k3 k4
    obtain ⟨J, hJ⟩ : ∃ J, encE x = J := ⟨_, rfl⟩
    rw [hJ] at hq2 hJs HE0
    obtain ⟨tx, d⟩ := x
    simp only at k1 k2 k3 HE0 ⊢
    have HE : Hid (∀ W, Calls Tryz.prog 129 #[.agg #[.int .i64 tx, .string d]] W fun e w' => e = .returned (.string J) ∧ Below W.heap.size W w') := HE0
    obtain ⟨t, ht⟩ : ∃ t, rdT ds s.data.toList = t := ⟨_, rfl⟩
    obtain ⟨r, hr⟩ : ∃ r, rdE ds s.data.toList = r := ⟨_, rfl⟩
    have HR : Hid (∀ W, Below w.heap.size w W → Calls Tryz.prog 59 #[.pointer (some ⟨px, 0, none⟩), .string s] W fun e w' => e = .returned (.tuple #[.string t, .int .i64 r]) ∧ W = w') := fun W hW => xk_read (HH.out.below hW) s t r ht hr
    unfold addR at hq2
    rw [hr] at hq2
    obtain ⟨x2, hx2⟩ : ∃ x, begE ds (refA ds s.data.toList J.data.toList) = x := ⟨_, rfl⟩
    obtain ⟨y2, hy2⟩ : ∃ x, doD ds (refA ds s.data.toList J.data.toList) (fapp s.data.toList J.data.toList) = x := ⟨_, rfl⟩
    have HA : Hid (∀ W, Xk w0 K W px ds → Calls Tryz.prog 34 #[.pointer (some ⟨px, 0, none⟩), .string s, .string J] W fun e w' => e = .returned (.int .i64 x2) ∧ Xk w0 K w' px y2 ∧ Stay (fun k => ¬ K k) W w') := fun W hW => xk_append hW s J (by unfold maxLen; omega) (by omega) x2 hx2 hy2
    obtain ⟨x3, hx3⟩ : ∃ x, begE y2 (refM y2.S s.data.toList) = x := ⟨_, rfl⟩
    obtain ⟨y3, hy3⟩ : ∃ x, doD y2 (refM y2.S s.data.toList) (fsyn s.data.toList) = x := ⟨_, rfl⟩
    have HS : Hid (∀ W, Xk w0 K W px y2 → Calls Tryz.prog 140 #[.pointer (some ⟨px, 0, none⟩), .string s] W fun e w' => e = .returned (.int .i64 x3) ∧ Xk w0 K w' px y3 ∧ Stay (fun k => ¬ K k) W w') := fun W hW => xk_sync hW s x3 hx3 hy3
    unfold apsR at hq2
    rw [hx2, hy2, hx3, hy3] at hq2
    have hways : (¬ r = 0 ∧ q = r ∧ ds' = ds) ∨ (r = 0 ∧ ¬ x2 = 0 ∧ q = x2 ∧ ds' = y2) ∨ (r = 0 ∧ x2 = 0 ∧ q = x3 ∧ ds' = y3) := by
      by_cases h0 : r = 0
      · rw [if_pos h0] at hq2
        by_cases h2 : x2 = 0
        · rw [if_pos h2, Prod.mk.injEq] at hq2; exact .inr (.inr ⟨h0, h2, hq2.1.symm, hq2.2.symm⟩)
        · rw [if_neg h2, Prod.mk.injEq] at hq2; exact .inr (.inl ⟨h0, h2, hq2.1.symm, hq2.2.symm⟩)
      · rw [if_neg h0, Prod.mk.injEq] at hq2; exact .inl ⟨h0, hq2.1.symm, hq2.2.symm⟩
    clear h hd hq hq2 ht hr hx2 hy2 hx3 hy3 HE0 hJ hJs k4
    obtain ⟨z, hz⟩ : ∃ z : Int, (d.size : Int) = z := ⟨_, rfl⟩
    obtain ⟨zs, hzs⟩ : ∃ z : Int, (s.size : Int) = z := ⟨_, rfl⟩
    rcases hways with ⟨h0, rfl, rfl⟩ | ⟨rfl, h2, rfl, rfl⟩ | ⟨rfl, rfl, rfl, rfl⟩
    · go_enter Tryz.func116, Tryz.ntmps116
      go_wp2_with (first
        | (go_at_call 59; refine (HR.out _ (by first | exact bel_al _ _ | exact Below.refl _ _)).mono ?_; rintro e w1 ⟨rfl, rfl⟩))
      go_ret
      exact ⟨rfl, HH.out.below (by first | exact bel_al _ _ | exact Below.refl _ _), Stay.of_bel (by first | exact bel_al _ _ | exact Below.refl _ _)⟩
    · go_enter Tryz.func116, Tryz.ntmps116
      go_wp2_with (first
        | (go_at_call 59; refine (HR.out _ (by first | exact bel_al _ _ | exact Below.refl _ _)).mono ?_; rintro e w1 ⟨rfl, rfl⟩)
        | (go_at_call 129; refine (HE.out _).mono ?_; rintro e w2 ⟨rfl, b2⟩; have B2 : Hid (Below w.heap.size w w2) := (by first | exact bel_tr (bel_al _ _) b2 | exact b2); clear b2)
        | (go_at_call 34; refine (HA.out _ (HH.out.below B2.out)).mono ?_; rintro e w3 ⟨rfl, h3, h4⟩; have H3 : Hid (Xk w0 K w3 px ds' ∧ Stay (fun k => ¬ K k) w w3) := ⟨h3, Stay.two (Stay.of_bel B2.out) h4⟩; clear h3 h4))
      go_ret
      exact ⟨rfl, H3.out.1, H3.out.2⟩
    · go_enter Tryz.func116, Tryz.ntmps116
      go_wp2_with (first
        | (go_at_call 59; refine (HR.out _ (by first | exact bel_al _ _ | exact Below.refl _ _)).mono ?_; rintro e w1 ⟨rfl, rfl⟩)
        | (go_at_call 129; refine (HE.out _).mono ?_; rintro e w2 ⟨rfl, b2⟩; have B2 : Hid (Below w.heap.size w w2) := (by first | exact bel_tr (bel_al _ _) b2 | exact b2); clear b2)
        | (go_at_call 34; refine (HA.out _ (HH.out.below B2.out)).mono ?_; rintro e w3 ⟨rfl, h3, h4⟩; have H3 : Hid (Xk w0 K w3 px y2 ∧ Stay (fun k => ¬ K k) w w3) := ⟨h3, Stay.two (Stay.of_bel B2.out) h4⟩; clear h3 h4)
        | (go_at_call 140; refine (HS.out _ H3.out.1).mono ?_; rintro e w4 ⟨rfl, h3, h4⟩; have H4 : Hid (Xk w0 K w4 px ds' ∧ Stay (fun k => ¬ K k) w w4) := ⟨h3, Stay.two H3.out.2 h4⟩; clear h3 h4))
      go_ret
      exact ⟨rfl, H4.out.1, H4.out.2⟩
  · obtain ⟨rfl, rfl⟩ := hq.no hok
    unfold maxLen at hd hs
    obtain ⟨tx, d⟩ := x
    simp only at hd hok ⊢
    have hways : 600 < d.size ∨ (¬ 600 < d.size ∧ tx < 1) ∨ (¬ 600 < d.size ∧ ¬ tx < 1 ∧ 300 < tx) ∨ (¬ 600 < d.size ∧ ¬ tx < 1 ∧ ¬ 300 < tx ∧ s.size < 1) ∨ (¬ 600 < d.size ∧ ¬ tx < 1 ∧ ¬ 300 < tx ∧ ¬ s.size < 1 ∧ 16 < s.size) := by
      by_cases h0 : 600 < d.size
      · exact .inl h0
      · by_cases h1 : tx < 1
        · exact .inr (.inl ⟨h0, h1⟩)
        · by_cases h2 : 300 < tx
          · exact .inr (.inr (.inl ⟨h0, h1, h2⟩))
          · by_cases h3 : s.size < 1
            · exact .inr (.inr (.inr (.inl ⟨h0, h1, h2, h3⟩)))
            · by_cases h4 : 16 < s.size
              · exact .inr (.inr (.inr (.inr ⟨h0, h1, h2, h3, h4⟩)))
              · exact absurd ⟨by omega, by omega, by omega, (mk_nm s).2 ⟨by omega, by omega⟩⟩ hok
    clear h hq hok
    rcases hways with h0 | ⟨h0, h1⟩ | ⟨h0, h1, h2⟩ | ⟨h0, h1, h2, h3⟩ | ⟨h0, h1, h2, h3, h4⟩
    all_goals
      go_enter Tryz.func116, Tryz.ntmps116
      go_wp2
      go_ret
      exact ⟨rfl, HH.out.below (by first | exact bel_al _ _ | exact Below.refl _ _), Stay.of_bel (by first | exact bel_al _ _ | exact Below.refl _ _)⟩
end

end Go.Proofs.YtfmhmokbbkliaaaGreat.Lgg
