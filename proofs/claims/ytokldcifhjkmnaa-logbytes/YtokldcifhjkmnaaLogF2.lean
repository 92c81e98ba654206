/- The contracts of log.Right and log.Bytes. -/
import Derived.Test.YtokldcifhjkmnaaLogF1
import Derived.Test.YtokldcifhjkmnaaWireRow
namespace Go.Proofs.Ytokldcifhjkmnaa.Lgg
open Go.RowKit Go.Proofs.Ytokldcifhjkmnaa
open Go.Proofs.Ytokldcifhjkmnaa.Wir (numB takeZ takeNumV num_val)
open Go.Proofs.Ytokldcifhjkmnaa.Smm (sealB openT seal_yes open_any sealB_size)
set_option linter.unusedVariables false

theorem info_parts {P : Program} {t : TypeId} {z : Option Value} {s b : Nat} (h : (P.info? t).map (fun i => (i.zero, i.size, i.bytes)) = some (z, s, b)) : ∃ i, P.info? t = some i ∧ i.zero = z ∧ i.size = s ∧ i.bytes = b := by
  cases hq : P.info? t with
  | none => rw [hq] at h; cases h
  | some i => rw [hq] at h; simp at h; exact ⟨i, rfl, h.1, h.2.1, h.2.2⟩
theorem cell_al {w : World} {a : Addr} {v : Value} (h : w.cell? a = some v) : ∀ o, (w.alloc o).cell? a = some v := fun o => bel_cell (bel_al w o) h

set_option maxRecDepth 100000 in
set_option maxHeartbeats 2000000 in
theorem right_val {O : Nat → Prop} {w : World} {a : Option Addr} {es : List En} (h : Lie enC O w a es) (hd : ∀ x ∈ es, x.d.size ≤ maxLen) (ep : Int) (n c : Nat) (hn : es.length = n) (v : Bool) (hv : v = true ↔ RtL ⟨ep, es⟩) :
    Calls Try.prog 11 #[.agg #[.int .i64 ep, .slice a n c]] w fun e w' => e = .returned (.bool v) ∧ Below w.heap.size w w' := by
  have hlid := h.lid
  rw [hn] at hlid
  unfold maxLen at hlid
  have HH : Hid (Lie enC O w a es) := h
  have HD : Hid (∀ x ∈ es, x.d.size ≤ maxLen) := hd
  have HN : Hid (es.length = n) := hn
  have HV : Hid (v = true ↔ RtL ⟨ep, es⟩) := hv
  clear h hd hn hv
  have hst := fun (w : World) (a : Addr) (x : ByteArray) (m : Mode) => run_store (P := Try.prog) w a (.string x) m rfl
  cases hep : epOk ep with
  | false =>
    have HE : Hid (∀ W, Calls Try.prog 32 #[.int .i64 ep] W fun e w' => e = .returned (.bool false) ∧ w' = W) := fun W => mayBeEpoch_val ep false W hep
    have hvf : v = false := by
      cases v with
      | false => rfl
      | true => have := (HV.out.1 rfl).1; rw [hep] at this; cases this
    subst hvf
    clear hep HV
    go_enter Try.func11, Try.ntmps11
    go_wp2_with (go_at_call 32; refine (HE.out _).mono ?_; rintro e w1 ⟨rfl, rfl⟩)
    go_ret
    exact ⟨rfl, bel_al _ _⟩
  | true =>
    have HE : Hid (∀ W, Calls Try.prog 32 #[.int .i64 ep] W fun e w' => e = .returned (.bool true) ∧ w' = W) := fun W => mayBeEpoch_val ep true W hep
    by_cases h300 : 300 < n
    · have hvf : v = false := by
        cases v with
        | false => rfl
        | true => have h1 := (HV.out.1 rfl).2.1; have h2 := HN.out; simp only at h1; omega
      subst hvf
      clear hep HV
      go_enter Try.func11, Try.ntmps11
      go_wp2_with (go_at_call 32; refine (HE.out _).mono ?_; rintro e w1 ⟨rfl, rfl⟩)
      go_ret
      exact ⟨rfl, bel_al _ _⟩
    · have HV2 : Hid (v = true ↔ RtE es) := by
        show v = true ↔ RtE es
        rw [HV.out]
        exact ⟨fun h => h.2.2, fun h => ⟨hep, by have := HN.out; simp only; omega, h⟩⟩
      clear HV hep
      go_enter Try.func11, Try.ntmps11
      go_wp2_with (go_at_call 32; refine (HE.out _).mono ?_; rintro e w1 ⟨rfl, rfl⟩)
      have B0 : Hid (Below w.heap.size w (w.alloc (.cells #[.int .i64 ep, .slice a n c] 24))) := bel_al _ _
      generalize w.alloc (.cells #[.int .i64 ep, .slice a n c] 24) = W1 at *
      go_loopw [18] (fun u wr => ∃ i : Nat, i ≤ n ∧ u = .int .i64 i ∧ Below w.heap.size w wr ∧ ∀ j (hj : j < es.length), j < i → enOk j es[j]) (fun u _ => n - (intOf u).toNat)
      case atStart => exact ⟨0, by omega, rfl, B0.out, fun j _ h => by omega⟩
      case round =>
        obtain ⟨i, hi, rfl, hb, hall⟩ := hrel
        have HB : Hid (Below w.heap.size w wr) := hb
        have HA : Hid (∀ j (hj : j < es.length), j < i → enOk j es[j]) := hall
        clear hb hall B0
        by_cases hlt : i < n
        · have hie : i < es.length := by rw [HN.out]; exact hlt
          obtain ⟨b, off, rfl, hc⟩ := (HH.out.below HB.out).at wideN hie
          have hdd := HD.out _ (List.getElem_mem hie)
          have hno : ¬ enOk i es[i] → v = false := fun hno => by
            cases v with
            | false => rfl
            | true => exact absurd (HV2.out.1 rfl i hie) hno
          have HNX : Hid (enOk i es[i] → ∀ j (hj : j < es.length), j < i + 1 → enOk j es[j]) := fun hk j hj hji => by
            rcases Nat.lt_or_ge j i with h | h
            · exact HA.out j hj h
            · obtain rfl : j = i := by omega
              exact hk
          generalize es[i] = x at *
          obtain ⟨tx, d⟩ := x
          have q0 : wr.cell? ⟨b, off + i * 2, none⟩ = some (.int .i64 tx) := hc 0 _ rfl
          have q1 : wr.cell? ⟨b, off + i * 2 + 1, none⟩ = some (.string d) := hc 1 _ rfl
          simp only at hdd
          have HDD : Hid (d.size ≤ maxLen) := hdd
          clear hc hdd
          by_cases hx : tx = ((i + 1 : Nat) : Int)
          · have hx2 : tx = (i : Int) + 1 := by omega
            cases hdv : decide (d.size ≤ 600) with
            | true =>
              have HK : Hid (∀ j (hj : j < es.length), j < i + 1 → enOk j es[j]) := HNX.out ⟨hx, of_decide_eq_true hdv⟩
              have HM : Hid (∀ W, Calls Try.prog 33 #[.string d] W fun e w' => e = .returned (.bool true) ∧ w' = W) := fun W => mayBeData_val d true W HDD.out hdv
              clear hdv hno HNX hx
              go_wp2_with (go_at_call 33; refine (HM.out _).mono ?_; rintro e w1 ⟨rfl, rfl⟩)
              go_roundw
              case rel => exact ⟨i + 1, by omega, by go_num, bel_tr HB.out (bel_al _ _), HK.out⟩
              case measure => simp [intOf]; omega
            | false =>
              have hvf := hno (fun hk => of_decide_eq_false hdv hk.2)
              subst hvf
              have HM : Hid (∀ W, Calls Try.prog 33 #[.string d] W fun e w' => e = .returned (.bool false) ∧ w' = W) := fun W => mayBeData_val d false W HDD.out hdv
              clear hdv hno HNX hx HV2
              go_wp2_with (go_at_call 33; refine (HM.out _).mono ?_; rintro e w1 ⟨rfl, rfl⟩)
              go_ret
              exact ⟨rfl, bel_tr HB.out (bel_al _ _)⟩
          · have hvf := hno (fun hk => hx hk.1)
            subst hvf
            have hx2 : ¬ tx = (i : Int) + 1 := fun h => hx (by omega)
            clear hno HNX hx HV2
            go_wp2
            go_ret
            exact ⟨rfl, bel_tr HB.out (bel_al _ _)⟩
        · have hvt : v = true := HV2.out.2 (fun j hj => HA.out j hj (by have := HN.out; omega))
          subst hvt
          clear HV2 HA
          go_wp2
          go_ret
          exact ⟨rfl, HB.out⟩

set_option maxRecDepth 100000 in
set_option maxHeartbeats 2000000 in
theorem bytes_no {O : Nat → Prop} {w : World} {a : Option Addr} {es : List En} (h : Lie enC O w a es) (hd : ∀ x ∈ es, x.d.size ≤ maxLen) (ep : Int) (n c : Nat) (hn : es.length = n) (hv : ¬ RtL ⟨ep, es⟩) :
    Calls Try.prog 9 #[.agg #[.int .i64 ep, .slice a n c]] w fun e w' => e = .returned (.tuple #[.string ⟨#[]⟩, .int .i64 1]) ∧ Below w.heap.size w w' := by
  have HR : Hid (∀ W, Below w.heap.size w W → Calls Try.prog 11 #[.agg #[.int .i64 ep, .slice a n c]] W fun e w' => e = .returned (.bool false) ∧ Below w.heap.size w w') := fun W hb => (right_val (h.below hb) hd ep n c hn false ⟨(fun e => by cases e), fun e => absurd e hv⟩).mono fun e w' ⟨k1, k2⟩ => ⟨k1, bel_tr hb k2⟩
  clear h hd hn hv
  go_enter Try.func9, Try.ntmps9
  go_wp2_with (go_at_call 11; refine (HR.out _ (bel_al _ _)).mono ?_; rintro e w1 ⟨rfl, b1⟩)
  go_ret2
  exact ⟨rfl, b1⟩

/-- The bytes of the first k entries. -/
def upE (ep : Int) (es : List En) (k : Nat) : List UInt8 := (encL ⟨ep, es.take k⟩).data.toList
theorem upE_zero (ep : Int) (es : List En) : upE ep es 0 = (sealB (numT ep)).data.toList := by
  unfold upE encL; rw [List.take_zero]; show (sealB (numT ep) ++ encEs []).data.toList = _; rw [show encEs [] = (⟨#[]⟩ : ByteArray) from rfl, app_empty]
theorem upE_next (ep : Int) (es : List En) (k : Nat) (hk : k < es.length) : upE ep es (k + 1) = upE ep es k ++ (encE es[k]).data.toList := by
  unfold upE encL
  rw [List.take_succ_eq_append_getElem hk]
  simp only
  rw [encEs_app, encEs_one, ← Wir.app_assoc, Wir.app_list]
theorem upE_all (ep : Int) (es : List En) : (⟨(upE ep es es.length).toArray⟩ : ByteArray) = encL ⟨ep, es⟩ := by
  unfold upE; rw [List.take_length]
theorem encE_size {x : En} (h0 : -9223372036854775808 ≤ x.tx) (h1 : x.tx ≤ 9223372036854775807) (hd : x.d.size ≤ 600) : (encE x).size ≤ 624 := by
  have h2 := numT_size h0 h1
  have h3 : (numT x.tx ++ x.d).size ≤ 610 := by rw [Wir.app_size]; omega
  unfold encE
  rw [sealB_size]
  have := Wir.numB_len (n := ((numT x.tx ++ x.d).size : Int)) (by omega) (by omega)
  omega
theorem upE_len (ep : Int) (es : List En) (h0 : -9223372036854775808 ≤ ep) (h1 : ep ≤ 9223372036854775807) (hR : ∀ i (h : i < es.length), -9223372036854775808 ≤ es[i].tx ∧ es[i].tx ≤ 9223372036854775807 ∧ es[i].d.size ≤ 600) : ∀ k, k ≤ es.length → (upE ep es k).length ≤ 24 + k * 624
  | 0, _ => by
    rw [upE_zero, Wir.size_list, sealB_size]
    have h2 := numT_size h0 h1
    have := Wir.numB_len (n := ((numT ep).size : Int)) (by omega) (by omega)
    omega
  | k + 1, hk => by
    rw [upE_next ep es k (by omega), List.length_append, Wir.size_list]
    have h2 := upE_len ep es h0 h1 hR k (by omega)
    obtain ⟨k1, k2, k3⟩ := hR k (by omega)
    have := encE_size k1 k2 k3
    omega

theorem text_row {P : Program} (w : World) (src dst e : TypeId) (s : ByteArray) (hs : P.underlying src = some .string) (hd : P.underlying dst = some (.slice e)) (he : P.underlying e = some (.int .u8)) (hm : s.size ≤ maxLen) (base : Nat) (hb : base ≤ w.heap.size) :
    ∃ v w', (convert src dst (.string s)).run P w = .ok v w' ∧ ByteRow base w' v s.data.toList ∧ Below base w w' :=
  ⟨_, _, run_bytes_of_string w src dst e s hs hd he, ByteRow.made w e s hm base hb, ((Below.refl base w).drew).alloc hb _⟩

theorem RtL.each {ep : Int} {es : List En} (h : RtL ⟨ep, es⟩) : ∀ i (hi : i < es.length), -9223372036854775808 ≤ es[i].tx ∧ es[i].tx ≤ 9223372036854775807 ∧ es[i].d.size ≤ 600 := fun i hi => by
  have h1 := h.2.2 i hi
  have h2 := h.2.1
  simp only at h2
  exact ⟨by rw [h1.1]; omega, by rw [h1.1]; omega, h1.2⟩
theorem ep_in {n : Int} (h : epOk n = true) : 0 ≤ n ∧ n ≤ 9007199254740991 := by unfold epOk maxN at h; simpa using h

set_option maxRecDepth 100000 in
set_option maxHeartbeats 4000000 in
theorem bytes_yes {O : Nat → Prop} {w : World} {a : Option Addr} {es : List En} (h : Lie enC O w a es) (ep : Int) (n c : Nat) (hn : es.length = n) (hv : RtL ⟨ep, es⟩) (J : ByteArray) (hJ : encL ⟨ep, es⟩ = J) :
    Calls Try.prog 9 #[.agg #[.int .i64 ep, .slice a n c]] w fun e w' => e = .returned (.tuple #[.string J, .int .i64 0]) ∧ Below w.heap.size w w' := by
  have hEach := hv.each
  have hep := ep_in hv.1
  simp only at hep
  have hn300 : n ≤ 300 := by have := hv.2.1; simp only at this; omega
  have HR : Hid (∀ W, Below w.heap.size w W → Calls Try.prog 11 #[.agg #[.int .i64 ep, .slice a n c]] W fun e w' => e = .returned (.bool true) ∧ Below W.heap.size W w') := fun W hb => right_val (h.below hb) (fun x hx => by
    obtain ⟨i, hi, rfl⟩ := List.mem_iff_getElem.1 hx
    have := (hEach i hi).2.2
    unfold maxLen; omega) ep n c hn true ⟨fun _ => hv, fun _ => rfl⟩
  have HL : Hid (∀ k, k ≤ es.length → (upE ep es k).length ≤ 24 + k * 624) := upE_len ep es (by omega) (by omega) hEach
  obtain ⟨SH, hSH⟩ : ∃ S, sealB (numT ep) = S := ⟨_, rfl⟩
  have hSs : SH.size ≤ 24 := by
    have := HL.out 0 (Nat.zero_le _)
    rw [upE_zero, Wir.size_list, hSH] at this
    omega
  have HS : Hid (∀ W, Calls Try.prog 26 #[.string (numT ep)] W fun e w' => e = .returned (.string SH) ∧ Below W.heap.size W w') := fun W => by
    have := sealed_val (numT ep) W (by have := numT_size (n := ep) (by omega) (by omega); omega)
    rw [hSH] at this; exact this
  have HM : Hid (∀ W, Calls Try.prog 27 #[.int .i64 ep] W fun e w' => e = .returned (.string (numT ep)) ∧ Below W.heap.size W w') := fun W => num_val ep _ W (by omega) (by omega) rfl
  have HU0 : Hid (upE ep es 0 = SH.data.toList) := by rw [upE_zero, hSH]; exact rfl
  have HUA : Hid ((⟨(upE ep es n).toArray⟩ : ByteArray) = J) := by rw [← hn, upE_all, hJ]; exact rfl
  have HUN : Hid (∀ k (hk : k < es.length), upE ep es (k + 1) = upE ep es k ++ (encE es[k]).data.toList) := fun k hk => upE_next ep es k hk
  have HEA : Hid (∀ i (hi : i < es.length), -9223372036854775808 ≤ es[i].tx ∧ es[i].tx ≤ 9223372036854775807 ∧ es[i].d.size ≤ 600) := hEach
  have HH : Hid (Lie enC O w a es) := h
  have HN : Hid (es.length = n) := hn
  obtain ⟨i0, hi0, hz0, hz1, hz2⟩ : ∃ i, Try.prog.info? 5 = some i ∧ i.zero = some (.int .u8 0) ∧ i.size = 1 ∧ i.bytes = 1 := info_parts Wir.Try.infoByte
  clear h hEach hep hn hv hJ hSH
  have hst := fun (w : World) (a : Addr) (x : ByteArray) (m : Mode) => run_store (P := Try.prog) w a (.string x) m rfl
  go_enter Try.func9, Try.ntmps9
  go_wp2_with fail
  refine (HR.out _ (bel_al _ _)).mono ?_
  rintro e w1 ⟨rfl, b1⟩
  have x0 := bel_cell b1 (World.cell?_alloc_new w _ _ 0)
  have x1 := bel_cell b1 (World.cell?_alloc_new w _ _ 1)
  have B1 : Hid (Below w.heap.size w w1) := bel_tr (bel_al _ _) b1
  have X1 : Hid _ := x1
  clear b1 HR
  go_wp2_with fail
  refine (HM.out _).mono ?_
  rintro e w2 ⟨rfl, b2⟩
  clear x0 x1 HM
  go_wp2_with fail
  refine (HS.out _).mono ?_
  rintro e w3 ⟨rfl, b3⟩
  have b13 := bel_tr b2 b3
  clear HS b2 b3
  obtain ⟨v0, w4, hcv, hrow0, hbel0⟩ := text_row (P := Try.prog) w3 9 57 5 SH Try.underlying9 Try.underlying57 Try.underlying5 (by unfold maxLen; omega) w1.heap.size b13.size
  have B4 : Hid (Below w1.heap.size w1 w4) := b13.trans hbel0
  have R4 : Hid (ByteRow w1.heap.size w4 v0 (upE ep es 0)) := by rw [HU0.out]; exact hrow0
  have x4 := bel_cell B4.out X1.out
  clear b13 hrow0 hbel0 HU0 hSs
  go_wp2_with fail
  clear hcv x4
  go_loopw [4, 18] (fun v u wr => ∃ k : Nat, k ≤ n ∧ u = .int .i64 k ∧ ByteRow w1.heap.size wr v (upE ep es k) ∧ Below w1.heap.size w1 wr) (fun _ u _ => n - (intOf u).toNat)
  case atStart => exact ⟨0, by omega, rfl, R4.out, B4.out⟩
  case round =>
    obtain ⟨k, hk, rfl, hrow, hbel⟩ := hrel
    have HB : Hid (Below w1.heap.size w1 wr) := hbel
    have HRW : Hid (ByteRow w1.heap.size wr u4 (upE ep es k)) := hrow
    clear R4 B4 hrow hbel
    by_cases hlt : k < n
    · have hks : k < es.length := by rw [HN.out]; exact hlt
      obtain ⟨b, off, rfl, hc⟩ := (HH.out.below (bel_tr B1.out HB.out)).at wideN hks
      obtain ⟨k1, k2, k3⟩ := HEA.out k hks
      have hnx := HUN.out k hks
      have hul := HL.out k (by omega)
      generalize es[k] = x at *
      obtain ⟨tx, d⟩ := x
      have q0 : wr.cell? ⟨b, off + k * 2, none⟩ = some (.int .i64 tx) := hc 0 _ rfl
      have q1 : wr.cell? ⟨b, off + k * 2 + 1, none⟩ = some (.string d) := hc 1 _ rfl
      obtain ⟨SN, hSN⟩ : ∃ X, encE ⟨tx, d⟩ = X := ⟨_, rfl⟩
      have hsn := encE_size k1 k2 k3
      rw [hSN] at hsn hnx
      have hbnd : (upE ep es k).length + SN.size ≤ 140737488355328 := by omega
      have HNX : Hid (upE ep es (k + 1) = upE ep es k ++ SN.data.toList) := hnx
      have CN : Hid (∀ W, Calls Try.prog 28 #[.agg #[.int .i64 tx, .string d]] W fun e w' => e = .returned (.string SN) ∧ Below W.heap.size W w') := fun W => by
        have := entryBytes_val ⟨tx, d⟩ W k1 k2 k3
        rw [hSN] at this; exact this
      have q0a := cell_al q0
      have q1a := cell_al q1
      clear hc hnx hul hsn hSN hks k1 k2 k3
      go_wp2_with fail
      refine (CN.out _).mono ?_
      rintro e w5 ⟨rfl, b5⟩
      have b6 := bel_tr (bel_al _ _) b5
      have hrow3 := HRW.out.below b6
      have hbel3 := bel_tr HB.out b6
      have hsz3 := hbel3.size
      clear b5 b6 q0 q1 q0a q1a
      go_wp2_with (at_builtin; refine wpList_append_bytes _ rfl _ _ 57 9 rfl 5 i0 Try.underlying57 Try.underlying9 hi0 hz0 hz1 hz2 w1.heap.size _ _ rfl hrow3 SN rfl hbnd hsz3 ?_)
      intro v' w7 hrow7 hbel7
      have hrow8 : ByteRow w1.heap.size w7 v' (upE ep es (k + 1)) := by rw [HNX.out]; exact hrow7
      have hbel8 := hbel3.trans hbel7
      clear hrow7 hbel7 hrow3 hbel3 hbnd
      go_wp2
      go_roundw
      case rel => exact ⟨k + 1, (by omega : k + 1 ≤ _), by go_num, hrow8, hbel8⟩
      case measure => simp [intOf]; omega
    · have hkl : k = n := by omega
      have hrow2 : ByteRow w1.heap.size wr u4 (upE ep es n) := by rw [← hkl]; exact HRW.out
      obtain ⟨g, cp, rfl, _, _, _, _, h6, _⟩ := hrow2.ex
      have hcv := run_convert_bytes_back (P := Try.prog) wr 57 9 5 ⟨g, 0, none⟩ cp (upE ep es n) Try.underlying57 Try.underlying5 Try.underlying9 (fun j hj => by rw [Addr.add_lit, Nat.zero_add]; exact h6 j hj)
      have hcv2 : (convert 57 9 (.slice (some ⟨g, 0, none⟩) (upE ep es n).length cp)).run Try.prog wr = .ok (.string J) wr := hcv.trans (by rw [← HUA.out])
      have hgd : decide (k < n) = false := decide_eq_false (by omega)
      clear hrow2 h6 hcv hlt hkl HRW
      go_wp2
      go_ret2
      exact ⟨rfl, bel_tr B1.out HB.out⟩

end Go.Proofs.Ytokldcifhjkmnaa.Lgg
