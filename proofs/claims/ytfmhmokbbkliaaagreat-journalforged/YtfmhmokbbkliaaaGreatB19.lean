/- Part 19 of the proof: LogF1, LogF2, LogD, LogE, LogG. -/
import Derived.Test.YtfmhmokbbkliaaaGreatB03
import Derived.Test.YtfmhmokbbkliaaaGreatB18
import Derived.Deep.RegionHeld3

/- The contracts of log's small functions, and of Right. -/
namespace Go.Proofs.YtfmhmokbbkliaaaGreat.Lgg
open Go.RowKit Go.Proofs.YtfmhmokbbkliaaaGreat
open Go.Proofs.YtfmhmokbbkliaaaGreat.Wir (numB takeZ takeNumV num_val)
open Go.Proofs.YtfmhmokbbkliaaaGreat.Smm (sealB openT seal_yes open_any)
set_option linter.unusedVariables false

def nmOk (s : ByteArray) : Bool := decide (1 ≤ s.size) && decide (s.size ≤ 16)
theorem mk_nm (s : ByteArray) : nmOk s = true ↔ 1 ≤ s.size ∧ s.size ≤ 16 := by unfold nmOk; simp

set_option maxRecDepth 100000 in
theorem mayBeEpoch_val (n : Int) (v : Bool) (w : World) (hv : epOk n = v) : Calls Tryz.prog 87 #[.int .i64 n] w fun e w' => e = .returned (.bool v) ∧ w' = w := by
  subst hv
  unfold epOk maxN
  by_cases h : 0 ≤ n
  · have h1 : decide (0 ≤ n) = true := decide_eq_true h
    rw [h1, Bool.true_and]
    go_enter Tryz.func87, Tryz.ntmps87
    go_wp2
    go_ret
    exact ⟨rfl, rfl⟩
  · have h1 : decide (0 ≤ n) = false := decide_eq_false h
    rw [h1, Bool.false_and]
    go_enter Tryz.func87, Tryz.ntmps87
    go_wp2
    go_ret
    exact ⟨rfl, rfl⟩
set_option maxRecDepth 100000 in
theorem mayBeData_val (s : ByteArray) (v : Bool) (w : World) (hs : s.size ≤ maxLen) (hv : decide (s.size ≤ 600) = v) : Calls Tryz.prog 88 #[.string s] w fun e w' => e = .returned (.bool v) ∧ w' = w := by
  unfold maxLen at hs
  have hv2 : decide ((s.size : Int) ≤ 600) = v := by rw [← hv]; exact decide_eq_decide.2 (by omega)
  clear hv
  go_enter Tryz.func88, Tryz.ntmps88
  go_wp2
  go_ret
  exact ⟨rfl, rfl⟩
set_option maxRecDepth 100000 in
theorem mayBeName_val (s : ByteArray) (v : Bool) (w : World) (hs : s.size ≤ maxLen) (hv : nmOk s = v) : Calls Tryz.prog 135 #[.string s] w fun e w' => e = .returned (.bool v) ∧ w' = w := by
  unfold maxLen at hs
  unfold nmOk at hv
  obtain ⟨z, hz⟩ : ∃ z : Int, (s.size : Int) = z := ⟨_, rfl⟩
  have e1 : decide (1 ≤ s.size) = decide (1 ≤ z) := decide_eq_decide.2 (by omega)
  have e2 : decide (s.size ≤ 16) = decide (z ≤ 16) := decide_eq_decide.2 (by omega)
  rw [e1, e2] at hv
  subst hv
  by_cases h : 1 ≤ z
  · have h1 : decide (1 ≤ z) = true := decide_eq_true h
    rw [h1, Bool.true_and]
    go_enter Tryz.func135, Tryz.ntmps135
    go_wp2
    go_ret
    exact ⟨by first | rfl | (simp; omega), rfl⟩
  · have h1 : decide (1 ≤ z) = false := decide_eq_false h
    rw [h1, Bool.false_and]
    go_enter Tryz.func135, Tryz.ntmps135
    go_wp2
    go_ret
    exact ⟨by first | rfl | (simp; omega), rfl⟩
set_option maxRecDepth 100000 in
theorem sealed_val (s : ByteArray) (w : World) (hs : s.size ≤ 4000) : Calls Tryz.prog 148 #[.string s] w fun e w' => e = .returned (.string (sealB s)) ∧ Below w.heap.size w w' := by
  go_enter Tryz.func148, Tryz.ntmps148
  go_wp2_with fail
  refine (seal_yes s _ hs).mono ?_
  rintro e w1 ⟨rfl, b1⟩
  go_wp2
  go_ret
  exact ⟨rfl, b1⟩
theorem kb1 {w w' : World} (h : Below w.drew.heap.size w.drew w') : Below w.heap.size w w' := ⟨h.os, h.tape, h.output, h.size, h.block⟩
theorem kb2 {w w' : World} (h : Below w.heap.size w w') : Below w.heap.size w w' := h
theorem kb3 {w w1 w' : World} (h : Below w.heap.size w w1) (k : Below w1.drew.heap.size w1.drew w') : Below w.heap.size w w' := bel_tr h (kb1 k)
theorem cells2 (w : World) (u v : Value) (t : TypeId) : (w.alloc (.cells #[u, v] t)).cell? ⟨w.heap.size, 0, none⟩ = some u ∧ (w.alloc (.cells #[u, v] t)).cell? ⟨w.heap.size, 1, none⟩ = some v ∧ (w.alloc (.cells #[u, v] t)).frozen? ⟨w.heap.size, 0, none⟩ = false ∧ (w.alloc (.cells #[u, v] t)).frozen? ⟨w.heap.size, 1, none⟩ = false :=
  ⟨World.cell?_alloc_new w _ _ 0, World.cell?_alloc_new w _ _ 1, World.frozen?_alloc_new w _ _ 0, World.frozen?_alloc_new w _ _ 1⟩

set_option maxRecDepth 100000 in
theorem entryBytes_val (x : En) (w : World) (h0 : -9223372036854775808 ≤ x.tx) (h1 : x.tx ≤ 9223372036854775807) (hd : x.d.size ≤ 600) : Calls Tryz.prog 149 #[.agg #[.int .i64 x.tx, .string x.d]] w fun e w' => e = .returned (.string (encE x)) ∧ Below w.heap.size w w' := by
  have hz := numT_size h0 h1
  obtain ⟨tx, d⟩ := x
  simp only at h0 h1 hd hz ⊢
  have ha := fun (w : World) => run_string_add_sum (P := Tryz.prog) w (numT tx) d (by omega)
  have hm : (numT tx ++ d).size ≤ 4000 := by rw [Wir.app_size]; omega
  have HS : Hid (∀ W, Calls Tryz.prog 148 #[.string (numT tx ++ d)] W fun e w' => e = .returned (.string (encE ⟨tx, d⟩)) ∧ Below W.heap.size W w') := fun W => sealed_val _ W hm
  have HN : Hid (∀ W, Calls Tryz.prog 35 #[.int .i64 tx] W fun e w' => e = .returned (.string (numT tx)) ∧ Below W.heap.size W w') := fun W => num_val tx _ W h0 h1 rfl
  clear hm hz h0 h1 hd
  obtain ⟨q0, q1, _, _⟩ := cells2 w (.int .i64 tx) (.string d) 24
  have B0 : Hid (Below w.heap.size w (w.alloc (.cells #[.int .i64 tx, .string d] 24))) := bel_al _ _
  obtain ⟨R, hR⟩ : ∃ R, w.heap.size = R := ⟨_, rfl⟩
  rw [hR] at q0 q1
  have HR : Hid (w.heap.size = R) := hR
  go_enter Tryz.func149, Tryz.ntmps149
  go_wp2_with fail
  clear hR
  generalize w.alloc (.cells #[.int .i64 tx, .string d] 24) = W1 at *
  go_region_held3 (fun w' => w'.cell? ⟨R, 0, none⟩ = some (.int .i64 tx) ∧ w'.cell? ⟨R, 1, none⟩ = some (.string d))
    (first | (refine ⟨bel_cell KB.out q0, bel_cell KB.out q1⟩; done) | go_keep)
    (first
      | (go_at_call 35; refine (HN.out _).mono ?_; rintro x w1 ⟨rfl, b1⟩; have KB : Hid (Below W1.heap.size W1 w1) := (by first | exact b1 | exact kb1 b1); clear b1)
      | (go_at_call 148; refine (HS.out _).mono ?_; rintro x w2 ⟨rfl, b2⟩; replace KB : Hid (Below W1.heap.size W1 w2) := (by first | exact bel_tr KB.out b2 | exact kb3 KB.out b2); clear b2))
  all_goals
    go_wp2
    go_ret
    exact ⟨rfl, bel_tr B0.out KB.out⟩

/-- A part that can't be read. -/
abbrev leftV : Ending := .panicked [{ v := .iface 26 (.int .i64 2), recovered := false }]
set_option maxRecDepth 100000 in
theorem need_yes (w : World) : Calls Tryz.prog 155 #[.bool true] w fun e w' => e = .returned (.tuple #[]) ∧ w' = w := by
  go_enter Tryz.func155, Tryz.ntmps155
  go_wp2
  first | go_end0 | refine bodyPost_ret (results_none rfl _ _ _) rfl ?_
  exact ⟨rfl, rfl⟩
set_option maxRecDepth 100000 in
theorem need_no (w : World) : Calls Tryz.prog 155 #[.bool false] w fun e w' => e = leftV ∧ w' = w := by
  go_enter Tryz.func155, Tryz.ntmps155
  go_wp2
  exact ⟨rfl, rfl, rfl⟩

end Go.Proofs.YtfmhmokbbkliaaaGreat.Lgg

/- The contracts of log.Right and log.Bytes. -/
namespace Go.Proofs.YtfmhmokbbkliaaaGreat.Lgg
open Go.RowKit Go.Proofs.YtfmhmokbbkliaaaGreat
open Go.Proofs.YtfmhmokbbkliaaaGreat.Wir (numB takeZ takeNumV num_val)
open Go.Proofs.YtfmhmokbbkliaaaGreat.Smm (sealB openT seal_yes open_any sealB_size)
set_option linter.unusedVariables false

theorem info_parts {P : Program} {t : TypeId} {z : Option Value} {s b : Nat} (h : (P.info? t).map (fun i => (i.zero, i.size, i.bytes)) = some (z, s, b)) : ∃ i, P.info? t = some i ∧ i.zero = z ∧ i.size = s ∧ i.bytes = b := by
  cases hq : P.info? t with
  | none => rw [hq] at h; cases h
  | some i => rw [hq] at h; simp at h; exact ⟨i, rfl, h.1, h.2.1, h.2.2⟩
theorem cell_al {w : World} {a : Addr} {v : Value} (h : w.cell? a = some v) : ∀ o, (w.alloc o).cell? a = some v := fun o => bel_cell (bel_al w o) h

set_option maxRecDepth 100000 in
set_option maxHeartbeats 2000000 in
theorem right_val {O : Nat → Prop} {w : World} {a : Option Addr} {es : List En} (h : Lie enC O w a es) (hd : ∀ x ∈ es, x.d.size ≤ maxLen) (ep : Int) (n c : Nat) (hn : es.length = n) (v : Bool) (hv : v = true ↔ RtL ⟨ep, es⟩) :
    Calls Tryz.prog 44 #[.agg #[.int .i64 ep, .slice a n c]] w fun e w' => e = .returned (.bool v) ∧ Below w.heap.size w w' := by
  have hlid := h.lid
  rw [hn] at hlid
  unfold maxLen at hlid
  have HH : Hid (Lie enC O w a es) := h
  have HD : Hid (∀ x ∈ es, x.d.size ≤ maxLen) := hd
  have HN : Hid (es.length = n) := hn
  have HV : Hid (v = true ↔ RtL ⟨ep, es⟩) := hv
  clear h hd hn hv
  have hst := fun (w : World) (a : Addr) (x : ByteArray) (m : Mode) => run_store (P := Tryz.prog) w a (.string x) m rfl
  cases hep : epOk ep with
  | false =>
    have HE : Hid (∀ W, Calls Tryz.prog 87 #[.int .i64 ep] W fun e w' => e = .returned (.bool false) ∧ w' = W) := fun W => mayBeEpoch_val ep false W hep
    have hvf : v = false := by
      cases v with
      | false => rfl
      | true => have := (HV.out.1 rfl).1; rw [hep] at this; cases this
    subst hvf
    clear hep HV
    go_enter Tryz.func44, Tryz.ntmps44
    go_wp2_with (go_at_call 87; refine (HE.out _).mono ?_; rintro e w1 ⟨rfl, rfl⟩)
    go_ret
    exact ⟨rfl, bel_al _ _⟩
  | true =>
    have HE : Hid (∀ W, Calls Tryz.prog 87 #[.int .i64 ep] W fun e w' => e = .returned (.bool true) ∧ w' = W) := fun W => mayBeEpoch_val ep true W hep
    by_cases h300 : 300 < n
    · have hvf : v = false := by
        cases v with
        | false => rfl
        | true => have h1 := (HV.out.1 rfl).2.1; have h2 := HN.out; simp only at h1; omega
      subst hvf
      clear hep HV
      go_enter Tryz.func44, Tryz.ntmps44
      go_wp2_with (go_at_call 87; refine (HE.out _).mono ?_; rintro e w1 ⟨rfl, rfl⟩)
      go_ret
      exact ⟨rfl, bel_al _ _⟩
    · have HV2 : Hid (v = true ↔ RtE es) := by
        show v = true ↔ RtE es
        rw [HV.out]
        exact ⟨fun h => h.2.2, fun h => ⟨hep, by have := HN.out; simp only; omega, h⟩⟩
      clear HV hep
      go_enter Tryz.func44, Tryz.ntmps44
      go_wp2_with (go_at_call 87; refine (HE.out _).mono ?_; rintro e w1 ⟨rfl, rfl⟩)
      have B0 : Hid (Below w.heap.size w (w.alloc (.cells #[.int .i64 ep, .slice a n c] 34))) := bel_al _ _
      generalize w.alloc (.cells #[.int .i64 ep, .slice a n c] 34) = W1 at *
      go_loopw [18] (fun u wr => ∃ i : Nat, i ≤ n ∧ u = .int .i64 i ∧ Below w.heap.size w wr ∧ ∀ j (hj : j < es.length), j < i → enOk j es[j]) (fun u _ => n - (intOf u).toNat)
      case atStart => exact ⟨0, by omega, rfl, B0.out, fun j _ h => by omega⟩
      case round =>
        obtain ⟨i, hi, rfl, hb, hall⟩ := hrel
        have HB : Hid (Below w.heap.size w wr) := hb
        have HA : Hid (∀ j (hj : j < es.length), j < i → enOk j es[j]) := hall
        clear hb hall B0
        by_cases hlt : i < n
        · have hie : i < es.length := by rw [HN.out]; exact hlt
          obtain ⟨b, off, rfl, hc⟩ := (HH.out.below HB.out).at wideN hie
          have hdd := HD.out _ (List.getElem_mem hie)
          have hno : ¬ enOk i es[i] → v = false := fun hno => by
            cases v with
            | false => rfl
            | true => exact absurd (HV2.out.1 rfl i hie) hno
          have HNX : Hid (enOk i es[i] → ∀ j (hj : j < es.length), j < i + 1 → enOk j es[j]) := fun hk j hj hji => by
            rcases Nat.lt_or_ge j i with h | h
            · exact HA.out j hj h
            · obtain rfl : j = i := by omega
              exact hk
          generalize es[i] = x at *
          obtain ⟨tx, d⟩ := x
          have q0 : wr.cell? ⟨b, off + i * 2, none⟩ = some (.int .i64 tx) := hc 0 _ rfl
          have q1 : wr.cell? ⟨b, off + i * 2 + 1, none⟩ = some (.string d) := hc 1 _ rfl
          simp only at hdd
          have HDD : Hid (d.size ≤ maxLen) := hdd
          clear hc hdd
          by_cases hx : tx = ((i + 1 : Nat) : Int)
          · have hx2 : tx = (i : Int) + 1 := by omega
            cases hdv : decide (d.size ≤ 600) with
            | true =>
              have HK : Hid (∀ j (hj : j < es.length), j < i + 1 → enOk j es[j]) := HNX.out ⟨hx, of_decide_eq_true hdv⟩
              have HM : Hid (∀ W, Calls Tryz.prog 88 #[.string d] W fun e w' => e = .returned (.bool true) ∧ w' = W) := fun W => mayBeData_val d true W HDD.out hdv
              clear hdv hno HNX hx
              go_wp2_with (go_at_call 88; refine (HM.out _).mono ?_; rintro e w1 ⟨rfl, rfl⟩)
              go_roundw
              case rel => exact ⟨i + 1, by omega, by go_num, bel_tr HB.out (bel_al _ _), HK.out⟩
              case measure => simp [intOf]; omega
            | false =>
              have hvf := hno (fun hk => of_decide_eq_false hdv hk.2)
              subst hvf
              have HM : Hid (∀ W, Calls Tryz.prog 88 #[.string d] W fun e w' => e = .returned (.bool false) ∧ w' = W) := fun W => mayBeData_val d false W HDD.out hdv
              clear hdv hno HNX hx HV2
              go_wp2_with (go_at_call 88; refine (HM.out _).mono ?_; rintro e w1 ⟨rfl, rfl⟩)
              go_ret
              exact ⟨rfl, bel_tr HB.out (bel_al _ _)⟩
          · have hvf := hno (fun hk => hx hk.1)
            subst hvf
            have hx2 : ¬ tx = (i : Int) + 1 := fun h => hx (by omega)
            clear hno HNX hx HV2
            go_wp2
            go_ret
            exact ⟨rfl, bel_tr HB.out (bel_al _ _)⟩
        · have hvt : v = true := HV2.out.2 (fun j hj => HA.out j hj (by have := HN.out; omega))
          subst hvt
          clear HV2 HA
          go_wp2
          go_ret
          exact ⟨rfl, HB.out⟩

set_option maxRecDepth 100000 in
set_option maxHeartbeats 2000000 in
theorem bytes_no {O : Nat → Prop} {w : World} {a : Option Addr} {es : List En} (h : Lie enC O w a es) (hd : ∀ x ∈ es, x.d.size ≤ maxLen) (ep : Int) (n c : Nat) (hn : es.length = n) (hv : ¬ RtL ⟨ep, es⟩) :
    Calls Tryz.prog 114 #[.agg #[.int .i64 ep, .slice a n c]] w fun e w' => e = .returned (.tuple #[.string ⟨#[]⟩, .int .i64 1]) ∧ Below w.heap.size w w' := by
  have HR : Hid (∀ W, Below w.heap.size w W → Calls Tryz.prog 44 #[.agg #[.int .i64 ep, .slice a n c]] W fun e w' => e = .returned (.bool false) ∧ Below w.heap.size w w') := fun W hb => (right_val (h.below hb) hd ep n c hn false ⟨(fun e => by cases e), fun e => absurd e hv⟩).mono fun e w' ⟨k1, k2⟩ => ⟨k1, bel_tr hb k2⟩
  clear h hd hn hv
  go_enter Tryz.func114, Tryz.ntmps114
  go_wp2_with (go_at_call 44; refine (HR.out _ (bel_al _ _)).mono ?_; rintro e w1 ⟨rfl, b1⟩)
  go_ret2
  exact ⟨rfl, b1⟩

/-- The bytes of the first k entries. -/
def upE (ep : Int) (es : List En) (k : Nat) : List UInt8 := (encL ⟨ep, es.take k⟩).data.toList
theorem upE_zero (ep : Int) (es : List En) : upE ep es 0 = (sealB (numT ep)).data.toList := by
  unfold upE encL; rw [List.take_zero]; show (sealB (numT ep) ++ encEs []).data.toList = _; rw [show encEs [] = (⟨#[]⟩ : ByteArray) from rfl, app_empty]
theorem upE_next (ep : Int) (es : List En) (k : Nat) (hk : k < es.length) : upE ep es (k + 1) = upE ep es k ++ (encE es[k]).data.toList := by
  unfold upE encL
  rw [List.take_succ_eq_append_getElem hk]
  simp only
  rw [encEs_app, encEs_one, ← Wir.app_assoc, Wir.app_list]
theorem upE_all (ep : Int) (es : List En) : (⟨(upE ep es es.length).toArray⟩ : ByteArray) = encL ⟨ep, es⟩ := by
  unfold upE; rw [List.take_length]
theorem encE_size {x : En} (h0 : -9223372036854775808 ≤ x.tx) (h1 : x.tx ≤ 9223372036854775807) (hd : x.d.size ≤ 600) : (encE x).size ≤ 624 := by
  have h2 := numT_size h0 h1
  have h3 : (numT x.tx ++ x.d).size ≤ 610 := by rw [Wir.app_size]; omega
  unfold encE
  rw [sealB_size]
  have := Wir.numB_len (n := ((numT x.tx ++ x.d).size : Int)) (by omega) (by omega)
  omega
theorem upE_len (ep : Int) (es : List En) (h0 : -9223372036854775808 ≤ ep) (h1 : ep ≤ 9223372036854775807) (hR : ∀ i (h : i < es.length), -9223372036854775808 ≤ es[i].tx ∧ es[i].tx ≤ 9223372036854775807 ∧ es[i].d.size ≤ 600) : ∀ k, k ≤ es.length → (upE ep es k).length ≤ 24 + k * 624
  | 0, _ => by
    rw [upE_zero, Wir.size_list, sealB_size]
    have h2 := numT_size h0 h1
    have := Wir.numB_len (n := ((numT ep).size : Int)) (by omega) (by omega)
    omega
  | k + 1, hk => by
    rw [upE_next ep es k (by omega), List.length_append, Wir.size_list]
    have h2 := upE_len ep es h0 h1 hR k (by omega)
    obtain ⟨k1, k2, k3⟩ := hR k (by omega)
    have := encE_size k1 k2 k3
    omega

theorem text_row {P : Program} (w : World) (src dst e : TypeId) (s : ByteArray) (hs : P.underlying src = some .string) (hd : P.underlying dst = some (.slice e)) (he : P.underlying e = some (.int .u8)) (hm : s.size ≤ maxLen) (base : Nat) (hb : base ≤ w.heap.size) :
    ∃ v w', (convert src dst (.string s)).run P w = .ok v w' ∧ ByteRow base w' v s.data.toList ∧ Below base w w' :=
  ⟨_, _, run_bytes_of_string w src dst e s hs hd he, ByteRow.made w e s hm base hb, ((Below.refl base w).drew).alloc hb _⟩

theorem RtL.each {ep : Int} {es : List En} (h : RtL ⟨ep, es⟩) : ∀ i (hi : i < es.length), -9223372036854775808 ≤ es[i].tx ∧ es[i].tx ≤ 9223372036854775807 ∧ es[i].d.size ≤ 600 := fun i hi => by
  have h1 := h.2.2 i hi
  have h2 := h.2.1
  simp only at h2
  exact ⟨by rw [h1.1]; omega, by rw [h1.1]; omega, h1.2⟩
theorem ep_in {n : Int} (h : epOk n = true) : 0 ≤ n ∧ n ≤ 9007199254740991 := by unfold epOk maxN at h; simpa using h

set_option maxRecDepth 100000 in
set_option maxHeartbeats 4000000 in
theorem bytes_yes {O : Nat → Prop} {w : World} {a : Option Addr} {es : List En} (h : Lie enC O w a es) (ep : Int) (n c : Nat) (hn : es.length = n) (hv : RtL ⟨ep, es⟩) (J : ByteArray) (hJ : encL ⟨ep, es⟩ = J) :
    Calls Tryz.prog 114 #[.agg #[.int .i64 ep, .slice a n c]] w fun e w' => e = .returned (.tuple #[.string J, .int .i64 0]) ∧ Below w.heap.size w w' := by
  have hEach := hv.each
  have hep := ep_in hv.1
  simp only at hep
  have hn300 : n ≤ 300 := by have := hv.2.1; simp only at this; omega
  have HR : Hid (∀ W, Below w.heap.size w W → Calls Tryz.prog 44 #[.agg #[.int .i64 ep, .slice a n c]] W fun e w' => e = .returned (.bool true) ∧ Below W.heap.size W w') := fun W hb => right_val (h.below hb) (fun x hx => by
    obtain ⟨i, hi, rfl⟩ := List.mem_iff_getElem.1 hx
    have := (hEach i hi).2.2
    unfold maxLen; omega) ep n c hn true ⟨fun _ => hv, fun _ => rfl⟩
  have HL : Hid (∀ k, k ≤ es.length → (upE ep es k).length ≤ 24 + k * 624) := upE_len ep es (by omega) (by omega) hEach
  obtain ⟨SH, hSH⟩ : ∃ S, sealB (numT ep) = S := ⟨_, rfl⟩
  have hSs : SH.size ≤ 24 := by
    have := HL.out 0 (Nat.zero_le _)
    rw [upE_zero, Wir.size_list, hSH] at this
    omega
  have HS : Hid (∀ W, Calls Tryz.prog 148 #[.string (numT ep)] W fun e w' => e = .returned (.string SH) ∧ Below W.heap.size W w') := fun W => by
    have := sealed_val (numT ep) W (by have := numT_size (n := ep) (by omega) (by omega); omega)
    rw [hSH] at this; exact this
  have HM : Hid (∀ W, Calls Tryz.prog 35 #[.int .i64 ep] W fun e w' => e = .returned (.string (numT ep)) ∧ Below W.heap.size W w') := fun W => num_val ep _ W (by omega) (by omega) rfl
  have HU0 : Hid (upE ep es 0 = SH.data.toList) := by rw [upE_zero, hSH]; exact rfl
  have HUA : Hid ((⟨(upE ep es n).toArray⟩ : ByteArray) = J) := by rw [← hn, upE_all, hJ]; exact rfl
  have HUN : Hid (∀ k (hk : k < es.length), upE ep es (k + 1) = upE ep es k ++ (encE es[k]).data.toList) := fun k hk => upE_next ep es k hk
  have HEA : Hid (∀ i (hi : i < es.length), -9223372036854775808 ≤ es[i].tx ∧ es[i].tx ≤ 9223372036854775807 ∧ es[i].d.size ≤ 600) := hEach
  have HH : Hid (Lie enC O w a es) := h
  have HN : Hid (es.length = n) := hn
  obtain ⟨i0, hi0, hz0, hz1, hz2⟩ : ∃ i, Tryz.prog.info? 5 = some i ∧ i.zero = some (.int .u8 0) ∧ i.size = 1 ∧ i.bytes = 1 := info_parts Wir.Tryz.infoByte
  clear h hEach hep hn hv hJ hSH
  have hst := fun (w : World) (a : Addr) (x : ByteArray) (m : Mode) => run_store (P := Tryz.prog) w a (.string x) m rfl
  go_enter Tryz.func114, Tryz.ntmps114
  go_wp2_with fail
  refine (HR.out _ (bel_al _ _)).mono ?_
  rintro e w1 ⟨rfl, b1⟩
  have x0 := bel_cell b1 (World.cell?_alloc_new w _ _ 0)
  have x1 := bel_cell b1 (World.cell?_alloc_new w _ _ 1)
  have B1 : Hid (Below w.heap.size w w1) := bel_tr (bel_al _ _) b1
  have X1 : Hid _ := x1
  clear b1 HR
  go_wp2_with fail
  refine (HM.out _).mono ?_
  rintro e w2 ⟨rfl, b2⟩
  clear x0 x1 HM
  go_wp2_with fail
  refine (HS.out _).mono ?_
  rintro e w3 ⟨rfl, b3⟩
  have b13 := bel_tr b2 b3
  clear HS b2 b3
  obtain ⟨v0, w4, hcv, hrow0, hbel0⟩ := text_row (P := Tryz.prog) w3 9 113 5 SH Tryz.underlying9 Tryz.underlying113 Tryz.underlying5 (by unfold maxLen; omega) w1.heap.size b13.size
  have B4 : Hid (Below w1.heap.size w1 w4) := b13.trans hbel0
  have R4 : Hid (ByteRow w1.heap.size w4 v0 (upE ep es 0)) := by rw [HU0.out]; exact hrow0
  have x4 := bel_cell B4.out X1.out
  clear b13 hrow0 hbel0 HU0 hSs
  go_wp2_with fail
  clear hcv x4
  go_loopw [4, 18] (fun v u wr => ∃ k : Nat, k ≤ n ∧ u = .int .i64 k ∧ ByteRow w1.heap.size wr v (upE ep es k) ∧ Below w1.heap.size w1 wr) (fun _ u _ => n - (intOf u).toNat)
  case atStart => exact ⟨0, by omega, rfl, R4.out, B4.out⟩
  case round =>
    obtain ⟨k, hk, rfl, hrow, hbel⟩ := hrel
    have HB : Hid (Below w1.heap.size w1 wr) := hbel
    have HRW : Hid (ByteRow w1.heap.size wr u4 (upE ep es k)) := hrow
    clear R4 B4 hrow hbel
    by_cases hlt : k < n
    · have hks : k < es.length := by rw [HN.out]; exact hlt
      obtain ⟨b, off, rfl, hc⟩ := (HH.out.below (bel_tr B1.out HB.out)).at wideN hks
      obtain ⟨k1, k2, k3⟩ := HEA.out k hks
      have hnx := HUN.out k hks
      have hul := HL.out k (by omega)
      generalize es[k] = x at *
      obtain ⟨tx, d⟩ := x
      have q0 : wr.cell? ⟨b, off + k * 2, none⟩ = some (.int .i64 tx) := hc 0 _ rfl
      have q1 : wr.cell? ⟨b, off + k * 2 + 1, none⟩ = some (.string d) := hc 1 _ rfl
      obtain ⟨SN, hSN⟩ : ∃ X, encE ⟨tx, d⟩ = X := ⟨_, rfl⟩
      have hsn := encE_size k1 k2 k3
      rw [hSN] at hsn hnx
      have hbnd : (upE ep es k).length + SN.size ≤ 140737488355328 := by omega
      have HNX : Hid (upE ep es (k + 1) = upE ep es k ++ SN.data.toList) := hnx
      have CN : Hid (∀ W, Calls Tryz.prog 149 #[.agg #[.int .i64 tx, .string d]] W fun e w' => e = .returned (.string SN) ∧ Below W.heap.size W w') := fun W => by
        have := entryBytes_val ⟨tx, d⟩ W k1 k2 k3
        rw [hSN] at this; exact this
      have q0a := cell_al q0
      have q1a := cell_al q1
      clear hc hnx hul hsn hSN hks k1 k2 k3
      go_wp2_with fail
      refine (CN.out _).mono ?_
      rintro e w5 ⟨rfl, b5⟩
      have b6 := bel_tr (bel_al _ _) b5
      have hrow3 := HRW.out.below b6
      have hbel3 := bel_tr HB.out b6
      have hsz3 := hbel3.size
      clear b5 b6 q0 q1 q0a q1a
      go_wp2_with (at_builtin; refine wpList_append_bytes _ rfl _ _ 113 9 rfl 5 i0 Tryz.underlying113 Tryz.underlying9 hi0 hz0 hz1 hz2 w1.heap.size _ _ rfl hrow3 SN rfl hbnd hsz3 ?_)
      intro v' w7 hrow7 hbel7
      have hrow8 : ByteRow w1.heap.size w7 v' (upE ep es (k + 1)) := by rw [HNX.out]; exact hrow7
      have hbel8 := hbel3.trans hbel7
      clear hrow7 hbel7 hrow3 hbel3 hbnd
      go_wp2
      go_roundw
      case rel => exact ⟨k + 1, (by omega : k + 1 ≤ _), by go_num, hrow8, hbel8⟩
      case measure => simp [intOf]; omega
    · have hkl : k = n := by omega
      have hrow2 : ByteRow w1.heap.size wr u4 (upE ep es n) := by rw [← hkl]; exact HRW.out
      obtain ⟨g, cp, rfl, _, _, _, _, h6, _⟩ := hrow2.ex
      have hcv := run_convert_bytes_back (P := Tryz.prog) wr 113 9 5 ⟨g, 0, none⟩ cp (upE ep es n) Tryz.underlying113 Tryz.underlying5 Tryz.underlying9 (fun j hj => by rw [Addr.add_lit, Nat.zero_add]; exact h6 j hj)
      have hcv2 : (convert 113 9 (.slice (some ⟨g, 0, none⟩) (upE ep es n).length cp)).run Tryz.prog wr = .ok (.string J) wr := hcv.trans (by rw [← HUA.out])
      have hgd : decide (k < n) = false := decide_eq_false (by omega)
      clear hrow2 h6 hcv hlt hkl HRW
      go_wp2
      go_ret2
      exact ⟨rfl, bel_tr B1.out HB.out⟩

end Go.Proofs.YtfmhmokbbkliaaaGreat.Lgg

/- A disk beside blocks that are kept; the contracts of deleted, appended, Store, Add. -/
namespace Go.Proofs.YtfmhmokbbkliaaaGreat.Lgg
open Go.RowKit Go.Proofs.YtfmhmokbbkliaaaGreat
open Go.Proofs.YtfmhmokbbkliaaaGreat.Smm (sealB)
set_option linter.unusedVariables false

/-- A disk, made since w0; the blocks of K are others'. -/
structure Dk (w0 : World) (K : Nat → Prop) (w : World) (pd : Nat) (ds : DS) : Prop where
  ex : ∃ O, DAt O w pd ds ∧ (∀ k, O k → w0.heap.size ≤ k ∧ ¬ K k) ∧ Below w0.heap.size w0 w ∧ ∀ k, K k → k < w.heap.size

section
variable {w0 w w' : World} {K K' : Nat → Prop} {pd : Nat} {ds ds' : DS}
theorem Dk.bel (h : Dk w0 K w pd ds) : Below w0.heap.size w0 w := by obtain ⟨O, _, _, h, _⟩ := h.ex; exact h
theorem Dk.add (h : Dk w0 K w pd ds) (hb : Below w.heap.size w w') (hK : ∀ k, K' k → K k ∨ (w.heap.size ≤ k ∧ k < w'.heap.size)) : Dk w0 K' w' pd ds := by
  obtain ⟨O, h1, h2, h3, h4⟩ := h.ex
  refine ⟨O, h1.below hb, fun k hk => ⟨(h2 k hk).1, fun e => ?_⟩, bel_tr h3 hb, fun k hk => ?_⟩
  · rcases hK k e with e | e
    · exact (h2 k hk).2 e
    · have := h1.lt k hk; omega
  · rcases hK k hk with e | e
    · exact Nat.lt_of_lt_of_le (h4 k e) hb.size
    · exact e.2
theorem Dk.below (h : Dk w0 K w pd ds) (hb : Below w.heap.size w w') : Dk w0 K w' pd ds := h.add hb (fun _ e => .inl e)
theorem Dk.rise (h : Dk w0 K w pd ds) : Rise ds.S := by obtain ⟨O, h1, _⟩ := h.ex; exact h1.rise
theorem Stay.to {O O2 : Nat → Prop} (h : Stay O w w') (hO : ∀ k, O k → O2 k) : Stay O2 w w' := ⟨h.os, h.tape, h.output, h.size, fun k hk hn => h.block k hk (fun e => hn (hO k e))⟩
theorem Stay.of_bel {O : Nat → Prop} (h : Below w.heap.size w w') : Stay O w w' := Stay.of_below h
theorem Stay.two {O : Nat → Prop} {w2 : World} (h : Stay O w w') (k : Stay O w' w2) : Stay O w w2 := h.then_same k

theorem dk_grow {O : Nat → Prop} (hl : ∀ k, O k → w0.heap.size ≤ k ∧ ¬ K k) (hb : Below w0.heap.size w0 w) (hK : ∀ k, K k → k < w.heap.size) (h : DAt (Grow O w w') w' pd ds) (hs : Stay O w w') : Dk w0 K w' pd ds ∧ Stay (fun k => ¬ K k) w w' :=
  ⟨⟨_, h, fun k hk => hk.elim (hl k) (fun e => ⟨Nat.le_trans hb.size e.1, fun e2 => by have := hK k e2; omega⟩), hb.trans (hs.below hb.size (fun k hk => (hl k hk).1)), fun k hk => Nat.lt_of_lt_of_le (hK k hk) hs.size⟩, Stay.to hs (fun k hk => (hl k hk).2)⟩
theorem dk_same {O : Nat → Prop} (hl : ∀ k, O k → w0.heap.size ≤ k ∧ ¬ K k) (hb : Below w0.heap.size w0 w) (hK : ∀ k, K k → k < w.heap.size) (h : DAt O w' pd ds) (hs : Stay O w w') : Dk w0 K w' pd ds ∧ Stay (fun k => ¬ K k) w w' :=
  ⟨⟨_, h, hl, hb.trans (hs.below hb.size (fun k hk => (hl k hk).1)), fun k hk => Nat.lt_of_lt_of_le (hK k hk) hs.size⟩, Stay.to hs (fun k hk => (hl k hk).2)⟩

theorem dk_new (hb : Below w0.heap.size w0 w) (room r : Int) (hr : -9223372036854775808 ≤ room ∧ room < 9223372036854775808) (hm : max room 0 = r) :
    Calls Tryz.prog 19 #[.int .i64 room] w fun e w' => ∃ pd, e = .returned (.pointer (some ⟨pd, 0, none⟩)) ∧ Dk w0 (fun k => w0.heap.size ≤ k ∧ k < w.heap.size) w' pd ⟨r, 0, false, []⟩ ∧ Below w.heap.size w w' :=
  (new_val room r w hr hm).mono fun _ _ ⟨pd, h1, h2, h3⟩ => ⟨pd, h1, ⟨_, h2, fun k hk => ⟨Nat.le_trans hb.size hk.1, fun e => by omega⟩, bel_tr hb h3, fun k hk => by have := h3.size; omega⟩, h3⟩
theorem Dk.less (h : Dk w0 K w pd ds) (hK : ∀ k, K' k → K k) : Dk w0 K' w pd ds := h.add (Below.refl _ _) (fun k hk => .inl (hK k hk))

theorem dk_append (h : Dk w0 K w pd ds) (s d : ByteArray) (hs : s.size ≤ maxLen) (hd : d.size ≤ 140737488355328) (q : Int) (hq : begE ds (refA ds s.data.toList d.data.toList) = q)
    (hds : doD ds (refA ds s.data.toList d.data.toList) (fapp s.data.toList d.data.toList) = ds') :
    Calls Tryz.prog 33 #[.pointer (some ⟨pd, 0, none⟩), .string s, .string d] w fun e w' => e = .returned (.int .i64 q) ∧ Dk w0 K w' pd ds' ∧ Stay (fun k => ¬ K k) w w' := by
  obtain ⟨O, h1, h2, h3, h4⟩ := h.ex
  exact (append_val h1 s d hs hd q hq hds).mono fun e w' ⟨e1, e2, e3⟩ => ⟨e1, dk_grow h2 h3 h4 e2 e3⟩
theorem dk_sync (h : Dk w0 K w pd ds) (s : ByteArray) (hs : s.size ≤ maxLen) (q : Int) (hq : begE ds (refM ds.S s.data.toList) = q) (hds : doD ds (refM ds.S s.data.toList) (fsyn s.data.toList) = ds') :
    Calls Tryz.prog 157 #[.pointer (some ⟨pd, 0, none⟩), .string s] w fun e w' => e = .returned (.int .i64 q) ∧ Dk w0 K w' pd ds' ∧ Stay (fun k => ¬ K k) w w' := by
  obtain ⟨O, h1, h2, h3, h4⟩ := h.ex
  exact (sync_val h1 s hs q hq hds).mono fun e w' ⟨e1, e2, e3⟩ => ⟨e1, dk_grow h2 h3 h4 e2 e3⟩
theorem dk_delete (h : Dk w0 K w pd ds) (s : ByteArray) (hs : s.size ≤ maxLen) (q : Int) (hq : begE ds (refM ds.S s.data.toList) = q) (hds : doD ds (refM ds.S s.data.toList) (fun S => fdel S s.data.toList) = ds') :
    Calls Tryz.prog 156 #[.pointer (some ⟨pd, 0, none⟩), .string s] w fun e w' => e = .returned (.int .i64 q) ∧ Dk w0 K w' pd ds' ∧ Stay (fun k => ¬ K k) w w' := by
  obtain ⟨O, h1, h2, h3, h4⟩ := h.ex
  exact (delete_val h1 s hs q hq hds).mono fun e w' ⟨e1, e2, e3⟩ => ⟨e1, dk_grow h2 h3 h4 e2 e3⟩
theorem dk_rename (h : Dk w0 K w pd ds) (s d : ByteArray) (hs : s.size ≤ maxLen) (hd : d.size ≤ maxLen) (q : Int) (hq : begE ds (refR ds.S s.data.toList d.data.toList) = q) (hds : doD ds (refR ds.S s.data.toList d.data.toList) (fren s.data.toList d.data.toList) = ds') :
    Calls Tryz.prog 138 #[.pointer (some ⟨pd, 0, none⟩), .string s, .string d] w fun e w' => e = .returned (.int .i64 q) ∧ Dk w0 K w' pd ds' ∧ Stay (fun k => ¬ K k) w w' := by
  obtain ⟨O, h1, h2, h3, h4⟩ := h.ex
  exact (rename_val h1 s d hs hd q hq hds).mono fun e w' ⟨e1, e2, e3⟩ => ⟨e1, dk_grow h2 h3 h4 e2 e3⟩
theorem dk_fuse (h : Dk w0 K w pd ds) (n f : Int) (hn : -9223372036854775808 ≤ n ∧ n < 9223372036854775808) (hf : max n 0 = f) :
    Calls Tryz.prog 24 #[.pointer (some ⟨pd, 0, none⟩), .int .i64 n] w fun e w' => e = .returned (.tuple #[]) ∧ Dk w0 K w' pd { ds with fuse := f } ∧ Stay (fun k => ¬ K k) w w' := by
  obtain ⟨O, h1, h2, h3, h4⟩ := h.ex
  exact (fuse_val h1 n f hn hf).mono fun e w' ⟨e1, e2, e3⟩ => ⟨e1, dk_same h2 h3 h4 e2 e3⟩
theorem dk_crash (h : Dk w0 K w pd ds) (ka : Option Addr) (kb koff kcap m : Nat) (ks : List Int) (hm : ks.length = m) (hmx : m ≤ maxLen) (hI : Ints w0 .i64 ka kb koff ks) (hks : ∀ k ∈ ks, -9223372036854775808 ≤ k ∧ k ≤ 9223372036854775807) :
    Calls Tryz.prog 26 #[.pointer (some ⟨pd, 0, none⟩), .slice ka m kcap] w fun e w' => e = .returned (.tuple #[]) ∧ Dk w0 K w' pd ⟨ds.room, 0, false, crashL ks ds.S⟩ ∧ Stay (fun k => ¬ K k) w w' := by
  obtain ⟨O, h1, h2, h3, h4⟩ := h.ex
  refine (crash_val h1 ka kb koff kcap m ks hm hmx (hI.below h3) (fun hp e => ?_) hks).mono fun e w' ⟨e1, e2, e3⟩ => ⟨e1, dk_same h2 h3 h4 e2 e3⟩
  have := hI.lt (by omega)
  have := (h2 kb e).1
  omega
theorem dk_read (h : Dk w0 K w pd ds) (s : ByteArray) (hs : s.size ≤ maxLen) (t : ByteArray) (q : Int) (ht : rdT ds s.data.toList = t) (hq : rdE ds s.data.toList = q) :
    Calls Tryz.prog 77 #[.pointer (some ⟨pd, 0, none⟩), .string s] w fun e w' => e = .returned (.tuple #[.string t, .int .i64 q]) ∧ Below w.heap.size w w' := by
  obtain ⟨O, h1, h2, h3, h4⟩ := h.ex
  exact read_val h1 s hs t q ht hq
end

/-! ### what the calls do -/
def delR (ds : DS) (n : List UInt8) : Int × DS := if rdE ds n = 5 then (0, ds) else if rdE ds n = 0 then (begE ds (refM ds.S n), doD ds (refM ds.S n) (fun S => fdel S n)) else (rdE ds n, ds)
def apsR (ds : DS) (n d : List UInt8) : Int × DS :=
  if begE ds (refA ds n d) = 0 then (begE (doD ds (refA ds n d) (fapp n d)) (refM (doD ds (refA ds n d) (fapp n d)).S n), doD (doD ds (refA ds n d) (fapp n d)) (refM (doD ds (refA ds n d) (fapp n d)).S n) (fsyn n))
  else (begE ds (refA ds n d), doD ds (refA ds n d) (fapp n d))
def newN (s : ByteArray) : ByteArray := s ++ ⟨#[46, 110, 101, 119]⟩
def stoR (ds : DS) (s b : ByteArray) : Int × DS :=
  if (delR ds (newN s).data.toList).1 = 0 then
    if (apsR (delR ds (newN s).data.toList).2 (newN s).data.toList b.data.toList).1 = 0 then
      (begE (apsR (delR ds (newN s).data.toList).2 (newN s).data.toList b.data.toList).2 (refR (apsR (delR ds (newN s).data.toList).2 (newN s).data.toList b.data.toList).2.S (newN s).data.toList s.data.toList),
       doD (apsR (delR ds (newN s).data.toList).2 (newN s).data.toList b.data.toList).2 (refR (apsR (delR ds (newN s).data.toList).2 (newN s).data.toList b.data.toList).2.S (newN s).data.toList s.data.toList) (fren (newN s).data.toList s.data.toList))
    else apsR (delR ds (newN s).data.toList).2 (newN s).data.toList b.data.toList
  else delR ds (newN s).data.toList
def addR (ds : DS) (s b : ByteArray) : Int × DS := if rdE ds s.data.toList = 0 then apsR ds s.data.toList b.data.toList else (rdE ds s.data.toList, ds)

section
variable {w0 w : World} {K : Nat → Prop} {pd : Nat} {ds ds' : DS}
set_option maxRecDepth 100000 in
set_option maxHeartbeats 1000000 in
theorem deleted_val (h : Dk w0 K w pd ds) (s : ByteArray) (hs : s.size ≤ maxLen) (q : Int) (hr : delR ds s.data.toList = (q, ds')) :
    Calls Tryz.prog 136 #[.pointer (some ⟨pd, 0, none⟩), .string s] w fun e w' => e = .returned (.int .i64 q) ∧ Dk w0 K w' pd ds' ∧ Stay (fun k => ¬ K k) w w' := by
  obtain ⟨t, ht⟩ : ∃ t, rdT ds s.data.toList = t := ⟨_, rfl⟩
  obtain ⟨r, hrd⟩ : ∃ r, rdE ds s.data.toList = r := ⟨_, rfl⟩
  have HH : Hid (Dk w0 K w pd ds) := h
  have HR : Hid (Calls Tryz.prog 77 #[.pointer (some ⟨pd, 0, none⟩), .string s] w fun e w' => e = .returned (.tuple #[.string t, .int .i64 r]) ∧ Below w.heap.size w w') := dk_read h s hs t r ht hrd
  unfold delR at hr
  rw [hrd] at hr
  by_cases h5 : r = 5
  · rw [if_pos h5] at hr
    cases hr
    subst h5
    clear h hrd ht
    go_enter Tryz.func136, Tryz.ntmps136
    go_wp2_with fail
    refine HR.out.mono ?_
    rintro e w1 ⟨rfl, b1⟩
    go_wp2
    go_ret
    exact ⟨rfl, HH.out.below b1, Stay.of_bel b1⟩
  · rw [if_neg h5] at hr
    by_cases h0 : r = 0
    · rw [if_pos h0] at hr
      simp only [Prod.mk.injEq] at hr
      have HD : Hid (∀ W, Dk w0 K W pd ds → Calls Tryz.prog 156 #[.pointer (some ⟨pd, 0, none⟩), .string s] W fun e w' => e = .returned (.int .i64 q) ∧ Dk w0 K w' pd ds' ∧ Stay (fun k => ¬ K k) W w') := fun W hW => dk_delete hW s hs q hr.1 hr.2
      subst h0
      clear h hr hrd ht h5
      go_enter Tryz.func136, Tryz.ntmps136
      go_wp2_with fail
      refine HR.out.mono ?_
      rintro e w1 ⟨rfl, b1⟩
      have B1 : Hid (Below w.heap.size w w1) := b1
      clear b1
      go_wp2_with fail
      refine (HD.out _ (HH.out.below B1.out)).mono ?_
      rintro e w2 ⟨rfl, h2, h3⟩
      go_wp2
      go_ret
      exact ⟨rfl, h2, Stay.two (Stay.of_bel B1.out) h3⟩
    · rw [if_neg h0] at hr
      simp only [Prod.mk.injEq] at hr
      obtain ⟨rfl, rfl⟩ := hr
      clear h hrd ht
      go_enter Tryz.func136, Tryz.ntmps136
      go_wp2_with fail
      refine HR.out.mono ?_
      rintro e w1 ⟨rfl, b1⟩
      go_wp2
      go_ret
      exact ⟨rfl, HH.out.below b1, Stay.of_bel b1⟩

set_option maxRecDepth 100000 in
set_option maxHeartbeats 1000000 in
theorem appended_val (h : Dk w0 K w pd ds) (s d : ByteArray) (hs : s.size ≤ maxLen) (hd : d.size ≤ 140737488355328) (q : Int) (hr : apsR ds s.data.toList d.data.toList = (q, ds')) :
    Calls Tryz.prog 137 #[.pointer (some ⟨pd, 0, none⟩), .string s, .string d] w fun e w' => e = .returned (.int .i64 q) ∧ Dk w0 K w' pd ds' ∧ Stay (fun k => ¬ K k) w w' := by
  obtain ⟨r, hrd⟩ : ∃ r, begE ds (refA ds s.data.toList d.data.toList) = r := ⟨_, rfl⟩
  obtain ⟨d1, hd1⟩ : ∃ r, doD ds (refA ds s.data.toList d.data.toList) (fapp s.data.toList d.data.toList) = r := ⟨_, rfl⟩
  have HR : Hid (Calls Tryz.prog 33 #[.pointer (some ⟨pd, 0, none⟩), .string s, .string d] w fun e w' => e = .returned (.int .i64 r) ∧ Dk w0 K w' pd d1 ∧ Stay (fun k => ¬ K k) w w') := dk_append h s d hs hd r hrd hd1
  unfold apsR at hr
  rw [hrd, hd1] at hr
  by_cases h0 : r = 0
  · rw [if_pos h0] at hr
    simp only [Prod.mk.injEq] at hr
    have HD : Hid (∀ W, Dk w0 K W pd d1 → Calls Tryz.prog 157 #[.pointer (some ⟨pd, 0, none⟩), .string s] W fun e w' => e = .returned (.int .i64 q) ∧ Dk w0 K w' pd ds' ∧ Stay (fun k => ¬ K k) W w') := fun W hW => dk_sync hW s hs q hr.1 hr.2
    subst h0
    clear h hr hrd hd1
    go_enter Tryz.func137, Tryz.ntmps137
    go_wp2_with fail
    refine HR.out.mono ?_
    rintro e w1 ⟨rfl, h1, h2⟩
    have H1 : Hid (Dk w0 K w1 pd d1 ∧ Stay (fun k => ¬ K k) w w1) := ⟨h1, h2⟩
    clear h1 h2
    go_wp2_with fail
    refine (HD.out _ H1.out.1).mono ?_
    rintro e w2 ⟨rfl, h2, h3⟩
    go_wp2
    go_ret
    exact ⟨rfl, h2, Stay.two H1.out.2 h3⟩
  · rw [if_neg h0] at hr
    simp only [Prod.mk.injEq] at hr
    obtain ⟨rfl, rfl⟩ := hr
    clear h hrd hd1
    go_enter Tryz.func137, Tryz.ntmps137
    go_wp2_with fail
    refine HR.out.mono ?_
    rintro e w1 ⟨rfl, h1, h2⟩
    go_wp2
    go_ret
    exact ⟨rfl, h1, h2⟩
end

end Go.Proofs.YtfmhmokbbkliaaaGreat.Lgg

/- The contracts of log.Store and log.Add. -/
namespace Go.Proofs.YtfmhmokbbkliaaaGreat.Lgg
open Go.RowKit Go.Proofs.YtfmhmokbbkliaaaGreat
open Go.Proofs.YtfmhmokbbkliaaaGreat.Smm (sealB)
set_option linter.unusedVariables false

theorem newN_size (s : ByteArray) : (newN s).size = s.size + 4 := by unfold newN; rw [Wir.app_size]; rfl
theorem encL_size {ep : Int} {es : List En} (h : RtL ⟨ep, es⟩) : (encL ⟨ep, es⟩).size ≤ 24 + es.length * 624 := by
  have hep := ep_in h.1
  simp only at hep
  have h1 := upE_len ep es (by omega) (by omega) h.each es.length (Nat.le_refl _)
  unfold upE at h1
  rw [List.take_length, Wir.size_list] at h1
  exact h1

section
variable {w0 w : World} {K : Nat → Prop} {pd : Nat} {ds ds' : DS}

set_option maxRecDepth 100000 in
set_option maxHeartbeats 2000000 in
/-- A log that is right is stored. -/
theorem store_val (h : Dk w0 K w pd ds) (s : ByteArray) (hs : nmOk s = true) {O : Nat → Prop} {a : Option Addr} {es : List En} (hl : Lie enC O w a es) (ep : Int) (n c : Nat) (hn : es.length = n) (hR : RtL ⟨ep, es⟩) (q : Int) (hq : stoR ds s (encL ⟨ep, es⟩) = (q, ds')) :
    Calls Tryz.prog 103 #[.pointer (some ⟨pd, 0, none⟩), .string s, .agg #[.int .i64 ep, .slice a n c]] w fun e w' => e = .returned (.int .i64 q) ∧ Dk w0 K w' pd ds' ∧ Stay (fun k => ¬ K k) w w' := by
  have hs2 := (mk_nm s).1 hs
  have hJs : (encL ⟨ep, es⟩).size ≤ 200000 := by
    have := encL_size hR
    have h3 := hR.2.1
    simp only at h3
    omega
  obtain ⟨J, hJ⟩ : ∃ J, encL ⟨ep, es⟩ = J := ⟨_, rfl⟩
  rw [hJ] at hq hJs
  have hnz := newN_size s
  have ha := fun (w : World) => run_string_add_sum (P := Tryz.prog) w s ⟨#[46, 110, 101, 119]⟩ (by show s.size + 4 ≤ _; omega)
  have haE : s ++ (⟨#[46, 110, 101, 119]⟩ : ByteArray) = newN s := rfl
  rw [haE] at ha
  clear haE
  have HB : Hid (∀ W, Below w.heap.size w W → Calls Tryz.prog 114 #[.agg #[.int .i64 ep, .slice a n c]] W fun e w' => e = .returned (.tuple #[.string J, .int .i64 0]) ∧ Below W.heap.size W w') := fun W hb => bytes_yes (hl.below hb) ep n c hn hR J hJ
  have HNM : Hid (∀ W, Calls Tryz.prog 135 #[.string s] W fun e w' => e = .returned (.bool true) ∧ w' = W) := fun W => mayBeName_val s true W (by unfold maxLen; omega) hs
  have HH : Hid (Dk w0 K w pd ds) := h
  obtain ⟨NS, hNS⟩ : ∃ N, newN s = N := ⟨_, rfl⟩
  unfold stoR at hq
  rw [hNS] at hq ha hnz
  obtain ⟨⟨e1, d1⟩, hr1⟩ : ∃ r, delR ds NS.data.toList = r := ⟨_, rfl⟩
  rw [hr1] at hq
  have HD : Hid (∀ W, Dk w0 K W pd ds → Calls Tryz.prog 136 #[.pointer (some ⟨pd, 0, none⟩), .string NS] W fun e w' => e = .returned (.int .i64 e1) ∧ Dk w0 K w' pd d1 ∧ Stay (fun k => ¬ K k) W w') := fun W hW => deleted_val hW NS (by unfold maxLen; omega) e1 hr1
  clear h hl hn hR hs hJ hNS hr1
  simp only at hq
  by_cases h1 : e1 = 0
  · rw [if_pos h1] at hq
    subst h1
    obtain ⟨⟨e2, d2⟩, hr2⟩ : ∃ r, apsR d1 NS.data.toList J.data.toList = r := ⟨_, rfl⟩
    rw [hr2] at hq
    have HA : Hid (∀ W, Dk w0 K W pd d1 → Calls Tryz.prog 137 #[.pointer (some ⟨pd, 0, none⟩), .string NS, .string J] W fun e w' => e = .returned (.int .i64 e2) ∧ Dk w0 K w' pd d2 ∧ Stay (fun k => ¬ K k) W w') := fun W hW => appended_val hW NS J (by unfold maxLen; omega) (by omega) e2 hr2
    clear hr2
    simp only at hq
    by_cases h2 : e2 = 0
    · rw [if_pos h2] at hq
      subst h2
      simp only [Prod.mk.injEq] at hq
      have HRN : Hid (∀ W, Dk w0 K W pd d2 → Calls Tryz.prog 138 #[.pointer (some ⟨pd, 0, none⟩), .string NS, .string s] W fun e w' => e = .returned (.int .i64 q) ∧ Dk w0 K w' pd ds' ∧ Stay (fun k => ¬ K k) W w') := fun W hW => dk_rename hW NS s (by unfold maxLen; omega) (by unfold maxLen; omega) q hq.1 hq.2
      clear hq hs2 hJs hnz
      go_enter Tryz.func103, Tryz.ntmps103
      go_wp2_with (first
        | (go_at_call 114; refine (HB.out _ (bel_al _ _)).mono ?_; rintro e w1 ⟨rfl, b1⟩; have B1 : Hid (Below w.heap.size w w1) := bel_tr (bel_al _ _) b1; clear b1)
        | (go_at_call 135; refine (HNM.out _).mono ?_; rintro e w2 ⟨rfl, rfl⟩)
        | (go_at_call 136; refine (HD.out _ (HH.out.below B1.out)).mono ?_; rintro e w3 ⟨rfl, h3, h4⟩; have H3 : Hid (Dk w0 K w3 pd d1 ∧ Stay (fun k => ¬ K k) w w3) := ⟨h3, Stay.two (Stay.of_bel B1.out) h4⟩; clear h3 h4)
        | (go_at_call 137; refine (HA.out _ H3.out.1).mono ?_; rintro e w4 ⟨rfl, h3, h4⟩; have H4 : Hid (Dk w0 K w4 pd d2 ∧ Stay (fun k => ¬ K k) w w4) := ⟨h3, Stay.two H3.out.2 h4⟩; clear h3 h4)
        | (go_at_call 138; refine (HRN.out _ H4.out.1).mono ?_; rintro e w5 ⟨rfl, h3, h4⟩; have H5 : Hid (Dk w0 K w5 pd ds' ∧ Stay (fun k => ¬ K k) w w5) := ⟨h3, Stay.two H4.out.2 h4⟩; clear h3 h4))
      go_ret
      exact ⟨rfl, H5.out.1, H5.out.2⟩
    · rw [if_neg h2] at hq
      simp only [Prod.mk.injEq] at hq
      obtain ⟨rfl, rfl⟩ := hq
      clear hs2 hJs hnz
      go_enter Tryz.func103, Tryz.ntmps103
      go_wp2_with (first
        | (go_at_call 114; refine (HB.out _ (bel_al _ _)).mono ?_; rintro e w1 ⟨rfl, b1⟩; have B1 : Hid (Below w.heap.size w w1) := bel_tr (bel_al _ _) b1; clear b1)
        | (go_at_call 135; refine (HNM.out _).mono ?_; rintro e w2 ⟨rfl, rfl⟩)
        | (go_at_call 136; refine (HD.out _ (HH.out.below B1.out)).mono ?_; rintro e w3 ⟨rfl, h3, h4⟩; have H3 : Hid (Dk w0 K w3 pd d1 ∧ Stay (fun k => ¬ K k) w w3) := ⟨h3, Stay.two (Stay.of_bel B1.out) h4⟩; clear h3 h4)
        | (go_at_call 137; refine (HA.out _ H3.out.1).mono ?_; rintro e w4 ⟨rfl, h3, h4⟩; have H4 : Hid (Dk w0 K w4 pd d2 ∧ Stay (fun k => ¬ K k) w w4) := ⟨h3, Stay.two H3.out.2 h4⟩; clear h3 h4))
      go_ret
      exact ⟨rfl, H4.out.1, H4.out.2⟩
  · rw [if_neg h1] at hq
    simp only [Prod.mk.injEq] at hq
    obtain ⟨rfl, rfl⟩ := hq
    clear hs2 hJs hnz
    go_enter Tryz.func103, Tryz.ntmps103
    go_wp2_with (first
      | (go_at_call 114; refine (HB.out _ (bel_al _ _)).mono ?_; rintro e w1 ⟨rfl, b1⟩; have B1 : Hid (Below w.heap.size w w1) := bel_tr (bel_al _ _) b1; clear b1)
      | (go_at_call 135; refine (HNM.out _).mono ?_; rintro e w2 ⟨rfl, rfl⟩)
      | (go_at_call 136; refine (HD.out _ (HH.out.below B1.out)).mono ?_; rintro e w3 ⟨rfl, h3, h4⟩; have H3 : Hid (Dk w0 K w3 pd d1 ∧ Stay (fun k => ¬ K k) w w3) := ⟨h3, Stay.two (Stay.of_bel B1.out) h4⟩; clear h3 h4))
    go_ret
    exact ⟨rfl, H3.out.1, H3.out.2⟩

set_option maxRecDepth 100000 in
set_option maxHeartbeats 2000000 in
/-- An entry that may be one is added. -/
theorem add_val (h : Dk w0 K w pd ds) (s : ByteArray) (hs : nmOk s = true) (x : En) (h1 : 1 ≤ x.tx) (h2 : x.tx ≤ 300) (hd : x.d.size ≤ 600) (q : Int) (hq : addR ds s (encE x) = (q, ds')) :
    Calls Tryz.prog 147 #[.pointer (some ⟨pd, 0, none⟩), .string s, .agg #[.int .i64 x.tx, .string x.d]] w fun e w' => e = .returned (.int .i64 q) ∧ Dk w0 K w' pd ds' ∧ Stay (fun k => ¬ K k) w w' := by
  have hs2 := (mk_nm s).1 hs
  have hJs := encE_size (x := x) (by omega) (by omega) hd
  have HE0 := fun W => entryBytes_val x W (by omega) (by omega) hd
  obtain ⟨J, hJ⟩ : ∃ J, encE x = J := ⟨_, rfl⟩
  rw [hJ] at hq hJs HE0
  obtain ⟨tx, d⟩ := x
  simp only at h1 h2 hd HE0 ⊢
  have HE : Hid (∀ W, Calls Tryz.prog 149 #[.agg #[.int .i64 tx, .string d]] W fun e w' => e = .returned (.string J) ∧ Below W.heap.size W w') := HE0
  have HNM : Hid (∀ W, Calls Tryz.prog 135 #[.string s] W fun e w' => e = .returned (.bool true) ∧ w' = W) := fun W => mayBeName_val s true W (by unfold maxLen; omega) hs
  have HMD : Hid (∀ W, Calls Tryz.prog 88 #[.string d] W fun e w' => e = .returned (.bool true) ∧ w' = W) := fun W => mayBeData_val d true W (by unfold maxLen; omega) (decide_eq_true hd)
  have HH : Hid (Dk w0 K w pd ds) := h
  obtain ⟨t, ht⟩ : ∃ t, rdT ds s.data.toList = t := ⟨_, rfl⟩
  obtain ⟨r, hrd⟩ : ∃ r, rdE ds s.data.toList = r := ⟨_, rfl⟩
  have HR : Hid (∀ W, Dk w0 K W pd ds → Calls Tryz.prog 77 #[.pointer (some ⟨pd, 0, none⟩), .string s] W fun e w' => e = .returned (.tuple #[.string t, .int .i64 r]) ∧ Below W.heap.size W w') := fun W hW => dk_read hW s (by unfold maxLen; omega) t r ht hrd
  unfold addR at hq
  rw [hrd] at hq
  clear HE0 h ht hrd hJ hd hs
  by_cases h0 : r = 0
  · rw [if_pos h0] at hq
    subst h0
    have HA : Hid (∀ W, Dk w0 K W pd ds → Calls Tryz.prog 137 #[.pointer (some ⟨pd, 0, none⟩), .string s, .string J] W fun e w' => e = .returned (.int .i64 q) ∧ Dk w0 K w' pd ds' ∧ Stay (fun k => ¬ K k) W w') := fun W hW => appended_val hW s J (by unfold maxLen; omega) (by omega) q hq
    clear hq hs2 hJs
    go_enter Tryz.func147, Tryz.ntmps147
    go_wp2_with (first
      | (go_at_call 88; refine (HMD.out _).mono ?_; rintro e w1 ⟨rfl, rfl⟩)
      | (go_at_call 135; refine (HNM.out _).mono ?_; rintro e w2 ⟨rfl, rfl⟩)
      | (go_at_call 77; refine (HR.out _ (HH.out.below (bel_al _ _))).mono ?_; rintro e w3 ⟨rfl, b3⟩; have x0 := bel_cell b3 (World.cell?_alloc_new w _ _ 0); have x1 := bel_cell b3 (World.cell?_alloc_new w _ _ 1); have B3 : Hid (Below w.heap.size w w3) := bel_tr (bel_al _ _) b3; clear b3)
      | (go_at_call 149; refine (HE.out _).mono ?_; rintro e w4 ⟨rfl, b4⟩; have B4 : Hid (Below w.heap.size w w4) := bel_tr B3.out b4; clear b4)
      | (go_at_call 137; refine (HA.out _ (HH.out.below B4.out)).mono ?_; rintro e w5 ⟨rfl, h3, h4⟩; have H5 : Hid (Dk w0 K w5 pd ds' ∧ Stay (fun k => ¬ K k) w w5) := ⟨h3, Stay.two (Stay.of_bel B4.out) h4⟩; clear h3 h4))
    go_ret
    exact ⟨rfl, H5.out.1, H5.out.2⟩
  · rw [if_neg h0] at hq
    simp only [Prod.mk.injEq] at hq
    obtain ⟨rfl, rfl⟩ := hq
    clear hs2 hJs
    go_enter Tryz.func147, Tryz.ntmps147
    go_wp2_with (first
      | (go_at_call 88; refine (HMD.out _).mono ?_; rintro e w1 ⟨rfl, rfl⟩)
      | (go_at_call 135; refine (HNM.out _).mono ?_; rintro e w2 ⟨rfl, rfl⟩)
      | (go_at_call 77; refine (HR.out _ (HH.out.below (bel_al _ _))).mono ?_; rintro e w3 ⟨rfl, b3⟩; have B3 : Hid (Below w.heap.size w w3) := bel_tr (bel_al _ _) b3; clear b3))
    go_ret
    exact ⟨rfl, HH.out.below B3.out, Stay.of_bel B3.out⟩
end

end Go.Proofs.YtfmhmokbbkliaaaGreat.Lgg

/- The contracts of takePart, takeEpoch, takeEntry. -/
namespace Go.Proofs.YtfmhmokbbkliaaaGreat.Lgg
open Go.RowKit Go.Proofs.YtfmhmokbbkliaaaGreat
open Go.Proofs.YtfmhmokbbkliaaaGreat.Wir (takeZ takeNumV takeNumV_no takeNumV_yes takeNum_val)
open Go.Proofs.YtfmhmokbbkliaaaGreat.Smm (openT openT_cases takeT_size open_any bytes_ne)
set_option linter.unusedVariables false

theorem is_empty {r : ByteArray} {v : Bool} (h : decide (r.size = 0) = v) : r.toList.isEmpty = v := by
  rw [← h, Lib.toList_data]
  have hl : r.data.toList.length = r.size := Array.length_toList
  cases hd : r.data.toList with
  | nil => rw [hd] at hl; simp at hl; simp [← hl]
  | cons x y => rw [hd] at hl; simp at hl; simp [← hl]
theorem two_set {w : World} {R : Nat} {u v u' v' : Value} (h0 : w.cell? ⟨R, 0, none⟩ = some u) (h1 : w.cell? ⟨R, 1, none⟩ = some v) : ((w.setCell ⟨R, 0, none⟩ u').setCell ⟨R, 1, none⟩ v').cell? ⟨R, 0, none⟩ = some u' ∧ ((w.setCell ⟨R, 0, none⟩ u').setCell ⟨R, 1, none⟩ v').cell? ⟨R, 1, none⟩ = some v' :=
  ⟨cell_set (by omega) (World.cell?_setCell_same _ _ _ h0), World.cell?_setCell_same _ _ _ (cell_set (by omega) h1)⟩
theorem openT_size {b T R : ByteArray} {E : Nat} (h : openT b = (T, R, E)) : T.size ≤ 4000 ∧ R.size ≤ b.size := by
  rcases openT_cases b with ⟨_, h1⟩ | ⟨t, r, hT, h1⟩
  · rw [h] at h1; cases h1; exact ⟨by show 0 ≤ 4000; omega, Nat.zero_le _⟩
  · have hs := takeT_size hT
    rcases h1 with ⟨_, h1⟩ | ⟨_, _, h1⟩ | ⟨_, _, h1⟩
    · rw [h] at h1; cases h1; exact ⟨by show 0 ≤ 4000; omega, Nat.zero_le _⟩
    · rw [h] at h1
      cases h1
      refine ⟨hs.1, ?_⟩
      rw [ByteArray.size_extract]; omega
    · rw [h] at h1; cases h1; exact ⟨by show 0 ≤ 4000; omega, Nat.zero_le _⟩
theorem takeP_size {b d r : ByteArray} {n : Int} (h : takeP b = some (n, d, r)) : d.size ≤ 4000 ∧ r.size ≤ b.size := by
  unfold takeP at h
  split at h
  · rename_i T R hO
    have h1 := openT_size hO
    split at h
    · rename_i z k hz
      simp only [Option.some.injEq, Prod.mk.injEq] at h
      obtain ⟨_, rfl, rfl⟩ := h
      exact ⟨by rw [ByteArray.size_extract]; omega, h1.2⟩
    · cases h
  · cases h

set_option maxRecDepth 100000 in
set_option maxHeartbeats 1000000 in
theorem takePart_yes (b : ByteArray) (hb : b.size ≤ maxLen) (n : Int) (d r : ByteArray) (h : takeP b = some (n, d, r)) (w : World) :
    Calls Tryz.prog 154 #[.string b] w fun e w' => e = .returned (.tuple #[.int .i64 n, .string d, .string r]) ∧ Below w.heap.size w w' := by
  unfold takeP at h
  obtain ⟨T, R, E, hO⟩ : ∃ T R E, openT b = (T, R, E) := ⟨_, _, _, rfl⟩
  have hsz := openT_size hO
  rw [hO] at h
  cases E with
  | succ E => cases h
  | zero =>
    simp only at h
    split at h
    · rename_i z k hz
      simp only [Option.some.injEq, Prod.mk.injEq] at h
      obtain ⟨rfl, rfl, rfl⟩ := h
      have HO : Hid (Calls Tryz.prog 167 #[.string b] w fun e w' => e = .returned (.tuple #[.string T, .string R, .int .i64 0]) ∧ Below w.heap.size w w') := open_any b T R 0 w hb hO
      have HT : Hid (∀ W, Calls Tryz.prog 124 #[.string T] W fun e w' => e = .returned (.tuple #[.int .i64 (Lib.unzigzag z), .string (T.extract k T.size), .int .i64 0]) ∧ Below W.heap.size W w') := fun W => takeNum_val T _ W (by unfold maxLen; omega) (takeNumV_yes hz)
      have HY : Hid (∀ W, Calls Tryz.prog 155 #[.bool true] W fun e w' => e = .returned (.tuple #[]) ∧ w' = W) := need_yes
      clear hO hsz hz
      generalize Lib.unzigzag z = N at *
      generalize T.extract k T.size = D at *
      go_enter Tryz.func154, Tryz.ntmps154
      go_wp2_with (first
        | (go_at_call 167; refine HO.out.mono ?_; rintro e w1 ⟨rfl, b1⟩; have B1 : Hid (Below w.heap.size w w1) := b1; clear b1)
        | (go_at_call 155; refine (HY.out _).mono ?_; rintro e wy ⟨rfl, rfl⟩)
        | (go_at_call 124; refine (HT.out _).mono ?_; rintro e w2 ⟨rfl, b2⟩; have B2 : Hid (Below w.heap.size w w2) := bel_tr B1.out b2; clear b2))
      go_ret3
      exact ⟨rfl, B2.out⟩
    · cases h

set_option maxRecDepth 100000 in
set_option maxHeartbeats 1000000 in
theorem takePart_no (b : ByteArray) (hb : b.size ≤ maxLen) (h : takeP b = none) (w : World) :
    Calls Tryz.prog 154 #[.string b] w fun e w' => e = leftV ∧ Below w.heap.size w w' := by
  unfold takeP at h
  obtain ⟨T, R, E, hO⟩ : ∃ T R E, openT b = (T, R, E) := ⟨_, _, _, rfl⟩
  have hsz := openT_size hO
  rw [hO] at h
  have HY : Hid (∀ W, Calls Tryz.prog 155 #[.bool true] W fun e w' => e = .returned (.tuple #[]) ∧ w' = W) := need_yes
  have HF : Hid (∀ W, Calls Tryz.prog 155 #[.bool false] W fun e w' => e = leftV ∧ w' = W) := need_no
  cases E with
  | succ E =>
    have HO : Hid (Calls Tryz.prog 167 #[.string b] w fun e w' => e = .returned (.tuple #[.string T, .string R, .int .i64 ((E + 1 : Nat) : Int)]) ∧ Below w.heap.size w w') := open_any b T R (E + 1) w hb hO
    obtain ⟨Z, hZ⟩ : ∃ Z : Int, ((E + 1 : Nat) : Int) = Z := ⟨_, rfl⟩
    have hz0 : ¬ Z = 0 := by omega
    have hzb : (Z == 0) = false := beq_eq_false_iff_ne.2 hz0
    have hzd : decide (Z = 0) = false := decide_eq_false hz0
    rw [hZ] at HO
    clear hO hsz h hZ HY
    go_enter Tryz.func154, Tryz.ntmps154
    go_wp2_with (first
      | (go_at_call 167; refine HO.out.mono ?_; rintro e w1 ⟨rfl, b1⟩; have B1 : Hid (Below w.heap.size w w1) := b1; clear b1)
      | (go_at_call 155; refine (HF.out _).mono ?_; rintro e wy ⟨rfl, rfl⟩))
    exact ⟨rfl, rfl, B1.out⟩
  | zero =>
    simp only at h
    split at h
    · cases h
    · rename_i hz
      have HO : Hid (Calls Tryz.prog 167 #[.string b] w fun e w' => e = .returned (.tuple #[.string T, .string R, .int .i64 0]) ∧ Below w.heap.size w w') := open_any b T R 0 w hb hO
      have HT : Hid (∀ W, Calls Tryz.prog 124 #[.string T] W fun e w' => e = .returned (.tuple #[.int .i64 0, .string ⟨#[]⟩, .int .i64 2]) ∧ Below W.heap.size W w') := fun W => takeNum_val T _ W (by unfold maxLen; omega) (takeNumV_no hz)
      clear hO hsz hz h
      go_enter Tryz.func154, Tryz.ntmps154
      go_wp2_with (first
        | (go_at_call 167; refine HO.out.mono ?_; rintro e w1 ⟨rfl, b1⟩; have B1 : Hid (Below w.heap.size w w1) := b1; clear b1)
        | (go_at_call 155; refine (HY.out _).mono ?_; rintro e wy ⟨rfl, rfl⟩)
        | (go_at_call 155; refine (HF.out _).mono ?_; rintro e wy ⟨rfl, rfl⟩)
        | (go_at_call 124; refine (HT.out _).mono ?_; rintro e w2 ⟨rfl, b2⟩; have B2 : Hid (Below w.heap.size w w2) := bel_tr B1.out b2; clear b2))
      exact ⟨rfl, rfl, B2.out⟩

set_option maxRecDepth 100000 in
set_option maxHeartbeats 1000000 in
theorem takeEpoch_yes (b : ByteArray) (hb : b.size ≤ maxLen) (n : Int) (r : ByteArray) (h : epochP b = some (n, r)) (w : World) :
    Calls Tryz.prog 132 #[.string b] w fun e w' => e = .returned (.tuple #[.int .i64 n, .string r]) ∧ Below w.heap.size w w' := by
  unfold epochP at h
  split at h
  · rename_i n' d r' hP
    split at h
    · rename_i hc
      cases h
      obtain rfl : d = ⟨#[]⟩ := by
        apply Go.WideShapes.bytes_inj
        have : d.data.toList.length = 0 := by rw [Wir.size_list]; exact hc.2
        rw [List.length_eq_zero_iff.1 this]
      have HP : Hid (Calls Tryz.prog 154 #[.string b] w fun e w' => e = .returned (.tuple #[.int .i64 n, .string ⟨#[]⟩, .string r]) ∧ Below w.heap.size w w') := takePart_yes b hb n _ r hP w
      have HE : Hid (∀ W, Calls Tryz.prog 87 #[.int .i64 n] W fun e w' => e = .returned (.bool true) ∧ w' = W) := fun W => mayBeEpoch_val n true W hc.1
      have HY : Hid (∀ W, Calls Tryz.prog 155 #[.bool true] W fun e w' => e = .returned (.tuple #[]) ∧ w' = W) := need_yes
      clear hP hc
      go_enter Tryz.func132, Tryz.ntmps132
      go_wp2_with (first
        | (go_at_call 154; refine HP.out.mono ?_; rintro e w1 ⟨rfl, b1⟩; have B1 : Hid (Below w.heap.size w w1) := b1; clear b1)
        | (go_at_call 87; refine (HE.out _).mono ?_; rintro e wy ⟨rfl, rfl⟩)
        | (go_at_call 155; refine (HY.out _).mono ?_; rintro e wy ⟨rfl, rfl⟩))
      go_ret2
      exact ⟨rfl, B1.out⟩
    · cases h
  · cases h

set_option maxRecDepth 100000 in
set_option maxHeartbeats 1000000 in
theorem takeEpoch_no (b : ByteArray) (hb : b.size ≤ maxLen) (h : epochP b = none) (w : World) :
    Calls Tryz.prog 132 #[.string b] w fun e w' => e = leftV ∧ Below w.heap.size w w' := by
  unfold epochP at h
  have HF : Hid (∀ W, Calls Tryz.prog 155 #[.bool false] W fun e w' => e = leftV ∧ w' = W) := need_no
  split at h
  · rename_i n d r hP
    split at h
    · cases h
    · rename_i hc
      have hsz := takeP_size hP
      have HP : Hid (Calls Tryz.prog 154 #[.string b] w fun e w' => e = .returned (.tuple #[.int .i64 n, .string d, .string r]) ∧ Below w.heap.size w w') := takePart_yes b hb n d r hP w
      cases he : epOk n with
      | false =>
        have HE : Hid (∀ W, Calls Tryz.prog 87 #[.int .i64 n] W fun e w' => e = .returned (.bool false) ∧ w' = W) := fun W => mayBeEpoch_val n false W he
        clear hP hc he h hsz
        go_enter Tryz.func132, Tryz.ntmps132
        go_wp2_with (first
          | (go_at_call 154; refine HP.out.mono ?_; rintro e w1 ⟨rfl, b1⟩; have B1 : Hid (Below w.heap.size w w1) := b1; clear b1)
          | (go_at_call 87; refine (HE.out _).mono ?_; rintro e wy ⟨rfl, rfl⟩)
          | (go_at_call 155; refine (HF.out _).mono ?_; rintro e wy ⟨rfl, rfl⟩))
        exact ⟨rfl, rfl, B1.out⟩
      | true =>
        have HE : Hid (∀ W, Calls Tryz.prog 87 #[.int .i64 n] W fun e w' => e = .returned (.bool true) ∧ w' = W) := fun W => mayBeEpoch_val n true W he
        have hne : ¬ d = ⟨#[]⟩ := fun e => hc ⟨he, by rw [e]; rfl⟩
        have hbe := bytes_ne hne
        have hie : d.toList.isEmpty = false := is_empty (decide_eq_false (fun e => hc ⟨he, e⟩))
        clear hP hc he h hsz
        go_enter Tryz.func132, Tryz.ntmps132
        go_wp2_with (first
          | (go_at_call 154; refine HP.out.mono ?_; rintro e w1 ⟨rfl, b1⟩; have B1 : Hid (Below w.heap.size w w1) := b1; clear b1)
          | (go_at_call 87; refine (HE.out _).mono ?_; rintro e wy ⟨rfl, rfl⟩)
          | (go_at_call 155; refine (HF.out _).mono ?_; rintro e wy ⟨rfl, rfl⟩))
        exact ⟨rfl, rfl, B1.out⟩
  · rename_i hP
    have HP : Hid (Calls Tryz.prog 154 #[.string b] w fun e w' => e = leftV ∧ Below w.heap.size w w') := takePart_no b hb hP w
    clear hP h
    go_enter Tryz.func132, Tryz.ntmps132
    go_wp2_with (go_at_call 154; refine HP.out.mono ?_; rintro e w1 ⟨rfl, b1⟩; have B1 : Hid (Below w.heap.size w w1) := b1; clear b1)
    exact ⟨rfl, rfl, B1.out⟩

set_option maxRecDepth 100000 in
set_option maxHeartbeats 1000000 in
theorem takeEntry_yes (b : ByteArray) (hb : b.size ≤ maxLen) (i : Int) (d r : ByteArray) (h : entryP b i = some (d, r)) (w : World) :
    Calls Tryz.prog 134 #[.string b, .int .i64 i] w fun e w' => e = .returned (.tuple #[.agg #[.int .i64 i, .string d], .string r]) ∧ Below w.heap.size w w' := by
  unfold entryP at h
  split at h
  · rename_i n' d' r' hP
    split at h
    · rename_i hc
      cases h
      obtain ⟨rfl, hd⟩ := hc
      have HP : Hid (∀ W, Calls Tryz.prog 154 #[.string b] W fun e w' => e = .returned (.tuple #[.int .i64 n', .string d, .string r]) ∧ Below W.heap.size W w') := fun W => takePart_yes b hb n' d r hP W
      have HE : Hid (∀ W, Calls Tryz.prog 88 #[.string d] W fun e w' => e = .returned (.bool true) ∧ w' = W) := fun W => mayBeData_val d true W (by unfold maxLen; omega) (decide_eq_true hd)
      have HY : Hid (∀ W, Calls Tryz.prog 155 #[.bool true] W fun e w' => e = .returned (.tuple #[]) ∧ w' = W) := need_yes
      have hst := fun (w : World) (a : Addr) (x : ByteArray) (m : Mode) => run_store (P := Tryz.prog) w a (.string x) m rfl
      clear hP hd
      go_enter Tryz.func134, Tryz.ntmps134
      go_wp2_with (first
        | (go_at_call 154; refine (HP.out _).mono ?_; rintro e w1 ⟨rfl, b1⟩; have x0 := bel_cell b1 (World.cell?_alloc_new w _ _ 0); have x1 := bel_cell b1 (World.cell?_alloc_new w _ _ 1); have f0 := (World.frozen?_of_block (a := ⟨w.heap.size, 0, none⟩) (b1.block w.heap.size (by simp))).trans (World.frozen?_alloc_new w _ _ 0); have f1 := (World.frozen?_of_block (a := ⟨w.heap.size, 1, none⟩) (b1.block w.heap.size (by simp))).trans (World.frozen?_alloc_new w _ _ 1); have B1 : Hid (Below w.heap.size w w1) := bel_tr (bel_al _ _) b1; clear b1)
        | (go_at_call 88; refine (HE.out _).mono ?_; rintro e wy ⟨rfl, rfl⟩)
        | (go_at_call 155; refine (HY.out _).mono ?_; rintro e wy ⟨rfl, rfl⟩))
      obtain ⟨y0, y1⟩ := two_set (u' := .int .i64 n') (v' := .string d) x0 x1
      refine bodyPost_ret (v := .tuple #[.agg #[.int .i64 n', .string d], .string r]) ?_ rfl ⟨rfl, ?_⟩
      · simp only [results, Tryz.results134]
        simp [go_sem, y0, y1]
      · exact Below.setCell (Below.setCell B1.out (Nat.le_refl _) _) (Nat.le_refl _) _
    · cases h
  · cases h

set_option maxRecDepth 100000 in
set_option maxHeartbeats 1000000 in
theorem takeEntry_no (b : ByteArray) (hb : b.size ≤ maxLen) (i : Int) (h : entryP b i = none) (w : World) :
    Calls Tryz.prog 134 #[.string b, .int .i64 i] w fun e w' => e = leftV ∧ Below w.heap.size w w' := by
  unfold entryP at h
  have HF : Hid (∀ W, Calls Tryz.prog 155 #[.bool false] W fun e w' => e = leftV ∧ w' = W) := need_no
  split at h
  · rename_i n d r hP
    split at h
    · cases h
    · rename_i hc
      have hsz := takeP_size hP
      have HP : Hid (∀ W, Calls Tryz.prog 154 #[.string b] W fun e w' => e = .returned (.tuple #[.int .i64 n, .string d, .string r]) ∧ Below W.heap.size W w') := fun W => takePart_yes b hb n d r hP W
      by_cases he : n = i
      · have HE : Hid (∀ W, Calls Tryz.prog 88 #[.string d] W fun e w' => e = .returned (.bool false) ∧ w' = W) := fun W => mayBeData_val d false W (by unfold maxLen; omega) (decide_eq_false (fun hd => hc ⟨he, hd⟩))
        subst he
        clear hP hc h hsz
        go_enter Tryz.func134, Tryz.ntmps134
        go_wp2_with (first
          | (go_at_call 154; refine (HP.out _).mono ?_; rintro e w1 ⟨rfl, b1⟩; have B1 : Hid (Below w.heap.size w w1) := bel_tr (bel_al _ _) b1; clear b1)
          | (go_at_call 88; refine (HE.out _).mono ?_; rintro e wy ⟨rfl, rfl⟩)
          | (go_at_call 155; refine (HF.out _).mono ?_; rintro e wy ⟨rfl, rfl⟩))
        exact ⟨rfl, rfl, B1.out⟩
      · clear hP hc h hsz
        go_enter Tryz.func134, Tryz.ntmps134
        go_wp2_with (first
          | (go_at_call 154; refine (HP.out _).mono ?_; rintro e w1 ⟨rfl, b1⟩; have B1 : Hid (Below w.heap.size w w1) := bel_tr (bel_al _ _) b1; clear b1)
          | (go_at_call 155; refine (HF.out _).mono ?_; rintro e wy ⟨rfl, rfl⟩))
        exact ⟨rfl, rfl, B1.out⟩
  · rename_i hP
    have HP : Hid (∀ W, Calls Tryz.prog 154 #[.string b] W fun e w' => e = leftV ∧ Below W.heap.size W w') := fun W => takePart_no b hb hP W
    clear hP h
    go_enter Tryz.func134, Tryz.ntmps134
    go_wp2_with (go_at_call 154; refine (HP.out _).mono ?_; rintro e w1 ⟨rfl, b1⟩; have B1 : Hid (Below w.heap.size w w1) := bel_tr (bel_al _ _) b1; clear b1)
    exact ⟨rfl, rfl, B1.out⟩

end Go.Proofs.YtfmhmokbbkliaaaGreat.Lgg
