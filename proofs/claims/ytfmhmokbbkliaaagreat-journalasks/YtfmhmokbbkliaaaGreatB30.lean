/- Part 30 of the proof: LogN. -/
import Derived.Test.YtfmhmokbbkliaaaGreatB02
import Derived.Test.YtfmhmokbbkliaaaGreatB19
import Derived.Test.YtfmhmokbbkliaaaGreatB22
import Derived.Deep.RegionHeld3

/- The contracts of tabulariumref14.Right, one, Bytes. -/
namespace Go.Proofs.YtfmhmokbbkliaaaGreat.Lgg
open Go.RowKit Go.Proofs.YtfmhmokbbkliaaaGreat
open Go.Proofs.YtfmhmokbbkliaaaGreat.Wir (numB refNum_any)
open Go.Proofs.YtfmhmokbbkliaaaGreat.Smm (sealB refSeal_yes)
set_option linter.unusedVariables false

set_option maxRecDepth 100000 in
set_option maxHeartbeats 2000000 in
theorem refRight_val {O : Nat → Prop} {w : World} {a : Option Addr} {es : List En} (h : Lie enC O w a es) (hd : ∀ x ∈ es, x.d.size ≤ maxLen) (ep : Int) (n c : Nat) (hn : es.length = n) (v : Bool) (hv : v = true ↔ RtL ⟨ep, es⟩) :
    Calls Tryz.prog 46 #[.agg #[.int .i64 ep, .slice a n c]] w fun e w' => e = .returned (.bool v) ∧ Below w.heap.size w w' := by
  have hlid := h.lid
  rw [hn] at hlid
  unfold maxLen at hlid
  have HD : Hid (∀ x ∈ es, x.d.size ≤ maxLen) := hd
  have HN : Hid (es.length = n) := hn
  have HV : Hid (v = true ↔ RtL ⟨ep, es⟩) := hv
  have HH : Hid (Lie enC O (w.alloc (.cells #[.int .i64 ep, .slice a n c] 34)) a es) := h.below (bel_al _ _)
  clear h hd hn hv
  by_cases h0 : ep < 0
  · have hvf : v = false := by
      cases v with
      | false => rfl
      | true => have := ep_in (HV.out.1 rfl).1; simp only at this; omega
    subst hvf
    clear HV
    go_enter Tryz.func46, Tryz.ntmps46
    go_wp2
    go_ret
    exact ⟨rfl, bel_al _ _⟩
  · by_cases h1 : 9007199254740991 < ep
    · have hvf : v = false := by
        cases v with
        | false => rfl
        | true => have := ep_in (HV.out.1 rfl).1; simp only at this; omega
      subst hvf
      clear HV
      go_enter Tryz.func46, Tryz.ntmps46
      go_wp2
      go_ret
      exact ⟨rfl, bel_al _ _⟩
    · by_cases h300 : 300 < n
      · have hvf : v = false := by
          cases v with
          | false => rfl
          | true => have h1 := (HV.out.1 rfl).2.1; have h2 := HN.out; simp only at h1; omega
        subst hvf
        clear HV
        go_enter Tryz.func46, Tryz.ntmps46
        go_wp2
        go_ret
        exact ⟨rfl, bel_al _ _⟩
      · have HV2 : Hid (v = true ↔ RtE es) := by
          show v = true ↔ RtE es
          rw [HV.out]
          exact ⟨fun h => h.2.2, fun h => ⟨by unfold epOk maxN; simp; omega, by have := HN.out; simp only; omega, h⟩⟩
        clear HV
        have y1 : (w.alloc (.cells #[.int .i64 ep, .slice a n c] 34)).cell? ⟨w.heap.size, 1, none⟩ = some (.slice a n c) := World.cell?_alloc_new w _ _ 1
        have B0 : Hid (Below w.heap.size w (w.alloc (.cells #[.int .i64 ep, .slice a n c] 34))) := bel_al _ _
        go_enter Tryz.func46, Tryz.ntmps46
        go_wp2
        generalize w.alloc (.cells #[.int .i64 ep, .slice a n c] 34) = W1 at *
        go_loopw [3] (fun u wr => ∃ i : Nat, i ≤ n ∧ u = .int .i64 i ∧ wr = W1 ∧ ∀ j (hj : j < es.length), j < i → enOk j es[j]) (fun u _ => n - (intOf u).toNat)
        case atStart => exact ⟨0, by omega, rfl, rfl, fun j _ h => by omega⟩
        case round =>
          obtain ⟨i, hi, rfl, rfl, hall⟩ := hrel
          have HA : Hid (∀ j (hj : j < es.length), j < i → enOk j es[j]) := hall
          clear hall
          by_cases hlt : i < n
          · have hie : i < es.length := by rw [HN.out]; exact hlt
            obtain ⟨b, off, rfl, hc⟩ := HH.out.at wideN hie
            have hdd := HD.out _ (List.getElem_mem hie)
            have hno : ¬ enOk i es[i] → v = false := fun hno => by
              cases v with
              | false => rfl
              | true => exact absurd (HV2.out.1 rfl i hie) hno
            have HNX : Hid (enOk i es[i] → ∀ j (hj : j < es.length), j < i + 1 → enOk j es[j]) := fun hk j hj hji => by
              rcases Nat.lt_or_ge j i with h | h
              · exact HA.out j hj h
              · obtain rfl : j = i := by omega
                exact hk
            generalize es[i] = x at *
            obtain ⟨tx, d⟩ := x
            have q0 : wr.cell? ⟨b, off + i * 2, none⟩ = some (.int .i64 tx) := hc 0 _ rfl
            have q1 : wr.cell? ⟨b, off + i * 2 + 1, none⟩ = some (.string d) := hc 1 _ rfl
            simp only at hdd
            unfold maxLen at hdd
            clear hc
            by_cases hx : tx = ((i + 1 : Nat) : Int)
            · have hx2 : tx = (i : Int) + 1 := by omega
              by_cases hdv : d.size ≤ 600
              · have HK : Hid (∀ j (hj : j < es.length), j < i + 1 → enOk j es[j]) := HNX.out ⟨hx, hdv⟩
                clear hno HNX hx
                go_wp2
                go_roundw
                case rel => exact ⟨i + 1, by omega, by go_num, by first | rfl | trivial, HK.out⟩
                case measure => simp [intOf]; omega
              · have hvf := hno (fun hk => hdv hk.2)
                subst hvf
                clear hno HNX hx HV2
                go_wp2
                go_ret
                exact ⟨rfl, B0.out⟩
            · have hvf := hno (fun hk => hx hk.1)
              subst hvf
              have hx2 : ¬ tx = (i : Int) + 1 := fun h => hx (by omega)
              clear hno HNX hx HV2
              go_wp2
              go_ret
              exact ⟨rfl, B0.out⟩
          · have hvt : v = true := HV2.out.2 (fun j hj => HA.out j hj (by have := HN.out; omega))
            subst hvt
            clear HV2 HA
            go_wp2
            go_ret
            exact ⟨rfl, B0.out⟩

theorem refNum_val (n : Int) (w : World) (h0 : -9223372036854775808 ≤ n) (h1 : n ≤ 9223372036854775807) : Calls Tryz.prog 90 #[.int .i64 n] w fun e w' => e = .returned (.string (numT n)) ∧ Below w.heap.size w w' :=
  (refNum_any n w h0 h1).mono fun e w' h => ⟨h.1, h.2⟩

set_option maxRecDepth 100000 in
theorem refOne_val (x : En) (w : World) (h0 : -9223372036854775808 ≤ x.tx) (h1 : x.tx ≤ 9223372036854775807) (hd : x.d.size ≤ 600) : Calls Tryz.prog 129 #[.agg #[.int .i64 x.tx, .string x.d]] w fun e w' => e = .returned (.string (encE x)) ∧ Below w.heap.size w w' := by
  have hz := numT_size h0 h1
  obtain ⟨tx, d⟩ := x
  simp only at h0 h1 hd hz ⊢
  have ha := fun (w : World) => run_string_add_sum (P := Tryz.prog) w (numT tx) d (by omega)
  have hm : (numT tx ++ d).size ≤ 4000 := by rw [Wir.app_size]; omega
  have HS := fun W => refSeal_yes (numT tx ++ d) W hm
  have HN : Hid (∀ W, Calls Tryz.prog 90 #[.int .i64 tx] W fun e w' => e = .returned (.string (numT tx)) ∧ Below W.heap.size W w') := fun W => refNum_val tx W h0 h1
  have HS2 : Hid (∀ W, Calls Tryz.prog 128 #[.string (numT tx ++ d)] W fun e w' => e = .returned (.tuple #[.string (encE ⟨tx, d⟩), .bool true]) ∧ Below W.heap.size W w') := HS
  clear hm hz h0 h1 hd HS
  obtain ⟨q0, q1, _, _⟩ := cells2 w (.int .i64 tx) (.string d) 24
  have B0 : Hid (Below w.heap.size w (w.alloc (.cells #[.int .i64 tx, .string d] 24))) := bel_al _ _
  obtain ⟨R, hR⟩ : ∃ R, w.heap.size = R := ⟨_, rfl⟩
  rw [hR] at q0 q1
  have HR : Hid (w.heap.size = R) := hR
  go_enter Tryz.func129, Tryz.ntmps129
  go_wp2_with fail
  clear hR
  generalize w.alloc (.cells #[.int .i64 tx, .string d] 24) = W1 at *
  go_region_held3 (fun w' => w'.cell? ⟨R, 0, none⟩ = some (.int .i64 tx) ∧ w'.cell? ⟨R, 1, none⟩ = some (.string d))
    (first | (refine ⟨bel_cell KB.out q0, bel_cell KB.out q1⟩; done) | go_keep)
    (first
      | (go_at_call 90; refine (HN.out _).mono ?_; rintro x w1 ⟨rfl, b1⟩; have KB : Hid (Below W1.heap.size W1 w1) := (by first | exact b1 | exact kb1 b1); clear b1)
      | (go_at_call 128; refine (HS2.out _).mono ?_; rintro x w2 ⟨rfl, b2⟩; replace KB : Hid (Below W1.heap.size W1 w2) := (by first | exact bel_tr KB.out b2 | exact kb3 KB.out b2); clear b2))
  all_goals
    go_wp2
    go_ret
    exact ⟨rfl, bel_tr B0.out KB.out⟩

set_option maxRecDepth 100000 in
set_option maxHeartbeats 2000000 in
theorem refBytes_no {O : Nat → Prop} {w : World} {a : Option Addr} {es : List En} (h : Lie enC O w a es) (hd : ∀ x ∈ es, x.d.size ≤ maxLen) (ep : Int) (n c : Nat) (hn : es.length = n) (hv : ¬ RtL ⟨ep, es⟩) :
    Calls Tryz.prog 101 #[.agg #[.int .i64 ep, .slice a n c]] w fun e w' => e = .returned (.tuple #[.string ⟨#[]⟩, .bool false]) ∧ Below w.heap.size w w' := by
  have HR : Hid (∀ W, Below w.heap.size w W → Calls Tryz.prog 46 #[.agg #[.int .i64 ep, .slice a n c]] W fun e w' => e = .returned (.bool false) ∧ Below w.heap.size w w') := fun W hb => (refRight_val (h.below hb) hd ep n c hn false ⟨(fun e => by cases e), fun e => absurd e hv⟩).mono fun e w' ⟨k1, k2⟩ => ⟨k1, bel_tr hb k2⟩
  clear h hd hn hv
  go_enter Tryz.func101, Tryz.ntmps101
  go_wp2_with (go_at_call 46; refine (HR.out _ (bel_al _ _)).mono ?_; rintro e w1 ⟨rfl, b1⟩)
  go_ret2
  exact ⟨rfl, b1⟩

set_option maxRecDepth 100000 in
set_option maxHeartbeats 4000000 in
theorem refBytes_yes {O : Nat → Prop} {w : World} {a : Option Addr} {es : List En} (h : Lie enC O w a es) (ep : Int) (n c : Nat) (hn : es.length = n) (hv : RtL ⟨ep, es⟩) (J : ByteArray) (hJ : encL ⟨ep, es⟩ = J) :
    Calls Tryz.prog 101 #[.agg #[.int .i64 ep, .slice a n c]] w fun e w' => e = .returned (.tuple #[.string J, .bool true]) ∧ Below w.heap.size w w' := by
  have hEach := hv.each
  have hep := ep_in hv.1
  simp only at hep
  have hn300 : n ≤ 300 := by have := hv.2.1; simp only at this; omega
  have HR : Hid (∀ W, Below w.heap.size w W → Calls Tryz.prog 46 #[.agg #[.int .i64 ep, .slice a n c]] W fun e w' => e = .returned (.bool true) ∧ Below W.heap.size W w') := fun W hb => refRight_val (h.below hb) (fun x hx => by
    obtain ⟨i, hi, rfl⟩ := List.mem_iff_getElem.1 hx
    have := (hEach i hi).2.2
    unfold maxLen; omega) ep n c hn true ⟨fun _ => hv, fun _ => rfl⟩
  have HL : Hid (∀ k, k ≤ es.length → (upE ep es k).length ≤ 24 + k * 624) := upE_len ep es (by omega) (by omega) hEach
  obtain ⟨SH, hSH⟩ : ∃ S, sealB (numT ep) = S := ⟨_, rfl⟩
  have hSz : (numT ep).size ≤ 4000 := by have := numT_size (n := ep) (by omega) (by omega); omega
  have HS : Hid (∀ W, Calls Tryz.prog 128 #[.string (numT ep)] W fun e w' => e = .returned (.tuple #[.string SH, .bool true]) ∧ Below W.heap.size W w') := fun W => by
    have := refSeal_yes (numT ep) W hSz
    rw [hSH] at this; exact this
  have HM : Hid (∀ W, Calls Tryz.prog 90 #[.int .i64 ep] W fun e w' => e = .returned (.string (numT ep)) ∧ Below W.heap.size W w') := fun W => refNum_val ep W (by omega) (by omega)
  have hU0 : (⟨(upE ep es 0).toArray⟩ : ByteArray) = SH := by rw [upE_zero, hSH]
  have HU0 : Hid ((⟨(upE ep es 0).toArray⟩ : ByteArray) = SH) := hU0
  have HUA : Hid ((⟨(upE ep es n).toArray⟩ : ByteArray) = J) := by rw [← hn, upE_all, hJ]; exact rfl
  have HUN : Hid (∀ k (hk : k < es.length), upE ep es (k + 1) = upE ep es k ++ (encE es[k]).data.toList) := fun k hk => upE_next ep es k hk
  have HEA : Hid (∀ i (hi : i < es.length), -9223372036854775808 ≤ es[i].tx ∧ es[i].tx ≤ 9223372036854775807 ∧ es[i].d.size ≤ 600) := hEach
  have HH : Hid (Lie enC O w a es) := h
  have HN : Hid (es.length = n) := hn
  clear h hEach hep hn hv hJ hSH hSz hU0
  go_enter Tryz.func101, Tryz.ntmps101
  go_wp2_with fail
  refine (HR.out _ (bel_al _ _)).mono ?_
  rintro e w1 ⟨rfl, b1⟩
  have x0 := bel_cell b1 (World.cell?_alloc_new w _ _ 0)
  have x1 := bel_cell b1 (World.cell?_alloc_new w _ _ 1)
  have B1 : Hid (Below w.heap.size w w1) := bel_tr (bel_al _ _) b1
  have X1 : Hid (w1.cell? ⟨w.heap.size, 1, none⟩ = some (.slice a n c)) := x1
  clear b1 HR
  go_wp2_with fail
  refine (HM.out _).mono ?_
  rintro e w2 ⟨rfl, b2⟩
  clear x0 x1 HM
  go_wp2_with fail
  refine (HS.out _).mono ?_
  rintro e w3 ⟨rfl, b3⟩
  have B3 : Hid (Below w1.heap.size w1 w3) := bel_tr b2 b3
  clear HS b2 b3
  go_wp2
  go_loopw [5, 7] (fun v u wr => ∃ k : Nat, k ≤ n ∧ u = .int .i64 k ∧ v = .string ⟨(upE ep es k).toArray⟩ ∧ Below w1.heap.size w1 wr) (fun _ u _ => n - (intOf u).toNat)
  case atStart => exact ⟨0, by omega, rfl, by rw [HU0.out], B3.out⟩
  case round =>
    obtain ⟨k, hk, rfl, rfl, hbel⟩ := hrel
    have HB : Hid (Below w1.heap.size w1 wr) := hbel
    clear B3 hbel
    have y1 := bel_cell HB.out X1.out
    by_cases hlt : k < n
    · have hks : k < es.length := by rw [HN.out]; exact hlt
      obtain ⟨b, off, rfl, hc⟩ := (HH.out.below (bel_tr B1.out HB.out)).at wideN hks
      obtain ⟨k1, k2, k3⟩ := HEA.out k hks
      have hnx := HUN.out k hks
      have hul := HL.out k (by omega)
      generalize es[k] = x at *
      obtain ⟨tx, d⟩ := x
      have q0 : wr.cell? ⟨b, off + k * 2, none⟩ = some (.int .i64 tx) := hc 0 _ rfl
      have q1 : wr.cell? ⟨b, off + k * 2 + 1, none⟩ = some (.string d) := hc 1 _ rfl
      obtain ⟨SN, hSN⟩ : ∃ X, encE ⟨tx, d⟩ = X := ⟨_, rfl⟩
      have hsn := encE_size k1 k2 k3
      rw [hSN] at hsn hnx
      have hcat : (⟨(upE ep es k).toArray⟩ : ByteArray) ++ SN = ⟨(upE ep es (k + 1)).toArray⟩ := by
        apply Go.WideShapes.bytes_inj
        rw [Wir.app_list, hnx]
      have ha := fun (w : World) => run_string_add_sum (P := Tryz.prog) w (⟨(upE ep es k).toArray⟩ : ByteArray) SN (by rw [Wir.mk_size]; omega)
      rw [hcat] at ha
      have CN : Hid (∀ W, Calls Tryz.prog 129 #[.agg #[.int .i64 tx, .string d]] W fun e w' => e = .returned (.string SN) ∧ Below W.heap.size W w') := fun W => by
        have := refOne_val ⟨tx, d⟩ W k1 k2 k3
        rw [hSN] at this; exact this
      clear hc hnx hul hsn hSN hks k1 k2 k3 hcat
      generalize (⟨(upE ep es k).toArray⟩ : ByteArray) = SA at *
      obtain ⟨SB, hSB⟩ : ∃ X : ByteArray, (⟨(upE ep es (k + 1)).toArray⟩ : ByteArray) = X := ⟨_, rfl⟩
      have HSB : Hid ((⟨(upE ep es (k + 1)).toArray⟩ : ByteArray) = SB) := hSB
      rw [hSB] at ha
      clear hSB
      go_wp2_with (go_at_call 129; refine (CN.out _).mono ?_; rintro e w5 ⟨rfl, b5⟩; have B5 : Hid (Below w1.heap.size w1 w5) := bel_tr HB.out b5; clear b5)
      go_roundw
      case rel => exact ⟨k + 1, by omega, by go_num, by rw [HSB.out], B5.out⟩
      case measure => simp [intOf]; omega
    · have hkl : k = n := by omega
      subst hkl
      have hJ2 := HUA.out
      rw [hJ2]
      have hgd : decide ((k : Int) < (k : Int)) = false := decide_eq_false (by omega)
      clear hlt hJ2
      go_wp2
      go_ret2
      exact ⟨rfl, bel_tr B1.out HB.out⟩

end Go.Proofs.YtfmhmokbbkliaaaGreat.Lgg
