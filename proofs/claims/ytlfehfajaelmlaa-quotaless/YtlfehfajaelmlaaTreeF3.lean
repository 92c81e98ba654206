/- The contracts of tree.Find, refuseDir, refuseParent, Right. -/
import Derived.Test.YtlfehfajaelmlaaTreeF2
namespace Go.Proofs.Ytlfehfajaelmlaa
open Go.RowKit

theorem Nds.at {w : World} {a : Option Addr} {b off : Nat} {ps : List NR} (h : Nds w a b off ps) {i : Nat} (hi : i < ps.length) :
    w.cell? ⟨b, off + i * 5, none⟩ = some (.string ps[i].1.path) ∧ w.cell? ⟨b, off + i * 5 + 1, none⟩ = some (.bool ps[i].1.dir) ∧ w.cell? ⟨b, off + i * 5 + 2, none⟩ = some (.int .i64 ps[i].1.quota) ∧ w.cell? ⟨b, off + i * 5 + 3, none⟩ = some (.slice ps[i].2.a ps[i].2.n ps[i].2.c) ∧ w.cell? ⟨b, off + i * 5 + 4, none⟩ = some (.int .i64 ps[i].1.wr) :=
  ⟨h.cell i hi 0 _ rfl, h.cell i hi 1 _ rfl, h.cell i hi 2 _ rfl, h.cell i hi 3 _ rfl, h.cell i hi 4 _ rfl⟩

theorem same_eq (p q : ByteArray) : (p.toList == q.toList) = decide (p = q) := by
  rw [Lib.toList_data, Lib.toList_data]
  by_cases h : p = q
  · subst h; simp
  · rw [decide_eq_false h, beq_eq_false_iff_ne]
    intro e
    exact h (ba_inj e)

set_option maxRecDepth 100000 in
theorem find1_val (x : NR) (p : ByteArray) (T : Nat) (v : Bool) (w : World) (hT : w.cell? ⟨T, 0, none⟩ = some (.string p)) (hv : decide (x.1.path = p) = v) :
    Calls Try.prog 30 #[ndV x, .pointer (some ⟨T, 0, none⟩)] w fun e w' => e = .returned (.bool v) ∧ Below w.heap.size w w' := by
  obtain ⟨⟨q, d, qu, bs, wr⟩, ⟨a, n, c⟩⟩ := x
  have hTa := cell_al hT
  have hv2 : (q.toList == p.toList) = v := by rw [same_eq]; exact hv
  unfold ndV
  clear hT hv
  go_enter Try.func30, Try.ntmps30
  go_wp2
  go_ret
  exact ⟨rfl, bel_al _ _⟩

set_option maxRecDepth 100000 in
set_option maxHeartbeats 1000000 in
theorem indexFunc_val {a : Option Addr} {n c b off : Nat} {ps : List NR} {w : World} (h : Nds w a b off ps) (hn : ps.length = n) (T : Nat) (p : ByteArray) (hT : w.cell? ⟨T, 0, none⟩ = some (.string p)) (I : Int) (hI : findI (ps.map (·.1)) p = I) :
    Calls Try.prog 29 #[.slice a n c, .func (.func 30) #[] #[.pointer (some ⟨T, 0, none⟩)]] w fun e w' => e = .returned (.int .i64 I) ∧ Below w.heap.size w w' := by
  have HC : Hid (Nds w a b off ps) := h
  have hlid := h.len
  unfold maxLen at hlid
  rw [hn] at hlid
  have HN : Hid (ps.length = n) := hn
  have HT : Hid _ := hT
  have HI : Hid _ := hI
  clear h hn hT hI
  go_enter Try.func29, Try.ntmps29
  go_wp2
  go_loopw [5, 8] (fun _ v8 wr => ∃ i : Nat, i ≤ n ∧ v8 = .int .i64 i ∧ Below w.heap.size w wr ∧ ∀ j (hj : j < ps.length), j < i → ps[j].1.path ≠ p) (fun _ v8 _ => n - (intOf v8).toNat)
  case atStart => exact ⟨0, by omega, rfl, Below.refl _ _, fun j hj hj0 => by omega⟩
  case round =>
    obtain ⟨i, hi, rfl, hb, hall⟩ := hrel
    have HB : Hid _ := hb
    have HA : Hid (∀ j (hj : j < ps.length), j < i → ps[j].1.path ≠ p) := hall
    by_cases hlt : i < n
    · have hi2 : i < ps.length := by rw [HN.out]; exact hlt
      obtain ⟨e0, e1, e2, e3, e4⟩ := (HC.out.below hb).at hi2
      obtain rfl := (HC.out.below hb).addr (by omega)
      have hTr := bel_cell hb HT.out
      have HX : Hid (decide (ps[i].1.path = p) = true → findI (ps.map (·.1)) p = (i : Int)) := fun hp => by
        have : at? (ps.map (·.1)) p = some i := at_is (by simpa using hi2) (by simpa using hp) (fun j hj => by
          have := hall j (by omega) hj
          simpa using this)
        unfold findI; rw [this]
      have HY : Hid (decide (ps[i].1.path = p) = false → ∀ j (hj : j < ps.length), j < i + 1 → ps[j].1.path ≠ p) := fun hp j hj hji => by
        rcases Nat.lt_or_ge j i with h | h
        · exact hall j hj h
        · obtain rfl : j = i := by omega
          simpa using hp
      generalize ps[i] = x at *
      obtain ⟨⟨q, d, qu, bs, wb⟩, ⟨sa, sn, sc⟩⟩ := x
      have CD : Hid (∀ v, decide (q = p) = v → Calls Try.prog 30 #[ndV ⟨⟨q, d, qu, bs, wb⟩, ⟨sa, sn, sc⟩⟩, .pointer (some ⟨T, 0, none⟩)] wr fun e w' => e = .returned (.bool v) ∧ Below wr.heap.size wr w') := fun v hv => find1_val ⟨⟨q, d, qu, bs, wb⟩, ⟨sa, sn, sc⟩⟩ p T v wr hTr hv
      unfold ndV at CD
      simp only at e0 e1 e2 e3 e4 HX HY CD
      clear hb hall hTr
      cases hv : decide (q = p) with
      | true =>
        have HV : Hid _ := hv
        have hII : I = (i : Int) := by rw [← HI.out]; exact HX.out hv
        subst hII
        clear hv
        go_wp2_with (refine (CD.out true HV.out).mono ?_; rintro e w1 ⟨rfl, hb1⟩)
        go_ret
        exact ⟨rfl, bel_tr HB.out hb1⟩
      | false =>
        have HV : Hid _ := hv
        clear hv
        go_wp2_with (refine (CD.out false HV.out).mono ?_; rintro e w1 ⟨rfl, hb1⟩)
        go_roundw
        case rel => exact ⟨i + 1, by omega, by go_num, bel_tr HB.out hb1, HY.out HV.out⟩
        case measure => simp [intOf]; omega
    · obtain rfl : i = n := by omega
      have hgd : decide ((i : Int) < (i : Int)) = false := decide_eq_false (by omega)
      have hII : I = -1 := by
        have : at? (ps.map (·.1)) p = none := at_no (fun x hx => by
          obtain ⟨y, hy, rfl⟩ := List.mem_map.1 hx
          obtain ⟨j, hj, rfl⟩ := List.getElem_of_mem hy
          exact hall j hj (by have := HN.out; omega))
        rw [← HI.out]; unfold findI; rw [this]
      subst hII
      clear hb hall hlt
      go_wp2
      go_ret
      exact ⟨rfl, HB.out⟩

set_option maxRecDepth 100000 in
theorem find_val {a : Option Addr} {n c : Nat} {xs : NS} {w : World} (h : NL w a n xs) (p : ByteArray) (I : Int) (hI : findI xs p = I) :
    Calls Try.prog 17 #[.slice a n c, .string p] w fun e w' => e = .returned (.int .i64 I) ∧ Below w.heap.size w w' := by
  obtain ⟨b, off, ps, h1, h2, h3⟩ := h.ex
  have CI : Hid (∀ o, Calls Try.prog 29 #[.slice a n c, .func (.func 30) #[] #[.pointer (some ⟨w.heap.size, 0, none⟩)]] (w.alloc (.cells #[.string p] o)) fun e w' => e = .returned (.int .i64 I) ∧ Below (w.alloc (.cells #[.string p] o)).heap.size (w.alloc (.cells #[.string p] o)) w') := fun o =>
    indexFunc_val (h3.below (bel_al _ _)) (by rw [← h2, ← h1, List.length_map]) w.heap.size p (World.cell?_alloc_new w _ _ 0) I (by rw [h1]; exact hI)
  clear h h3 hI
  go_enter Try.func17, Try.ntmps17
  go_wp2_with (refine (CI.out _).mono ?_; rintro e w1 ⟨rfl, c1⟩)
  go_ret
  exact ⟨rfl, bel_tr (bel_al _ _) c1⟩

theorem findI_cases (xs : NS) (p : ByteArray) : (at? xs p = none ∧ findI xs p = -1 ∧ dirE xs p = 5) ∨ ∃ i, at? xs p = some i ∧ findI xs p = (i : Int) ∧ ∃ hi : i < xs.length, dirE xs p = if xs[i].dir then 0 else 7 := by
  cases h : at? xs p with
  | none => exact .inl ⟨rfl, by unfold findI; rw [h], by unfold dirE; rw [h]⟩
  | some i =>
    obtain ⟨hi, _⟩ := at_some h
    refine .inr ⟨i, rfl, by unfold findI; rw [h], hi, ?_⟩
    unfold dirE; rw [h]
    simp [List.getElem?_eq_getElem hi]

set_option maxRecDepth 100000 in
set_option maxHeartbeats 1000000 in
theorem refuseDir_val {a : Option Addr} {n c : Nat} {xs : NS} {w : World} (h : NL w a n xs) (p : ByteArray) (E : Int) (hE : dirE xs p = E) :
    Calls Try.prog 37 #[.slice a n c, .string p] w fun e w' => e = .returned (.int .i64 E) ∧ Below w.heap.size w w' := by
  have CF : Hid (∀ I, findI xs p = I → Calls Try.prog 17 #[.slice a n c, .string p] w fun e w' => e = .returned (.int .i64 I) ∧ Below w.heap.size w w') := fun I hI => find_val h p I hI
  rcases findI_cases xs p with ⟨h1, h2, h3⟩ | ⟨i, h1, h2, hi, h3⟩
  · have hE5 : E = 5 := hE.symm.trans h3
    subst hE5
    have H2 : Hid _ := h2
    clear hE h h1 h2 h3
    go_enter Try.func37, Try.ntmps37
    go_wp2_with (refine (CF.out _ H2.out).mono ?_; rintro e w1 ⟨rfl, c1⟩)
    go_ret
    exact ⟨rfl, c1⟩
  · have H2 : Hid _ := h2
    obtain ⟨b, off, ps, k1, k2, k3⟩ := h.ex
    have hip : i < ps.length := by rw [← List.length_map (f := (·.1)), k1]; exact hi
    have hin : i < n := by rw [← k2]; exact hi
    have hlid := h.lid
    unfold maxLen at hlid
    have e1 := (k3.at hip).2.1
    obtain rfl := k3.addr (by omega)
    have ed : ps[i].1.dir = xs[i].dir := by subst k1; simp
    rw [ed] at e1
    have H1 : Hid (w.cell? ⟨b, off + i * 5 + 1, none⟩ = some (.bool xs[i].dir)) := e1
    rw [h3] at hE
    clear h h1 h2 h3 e1 k3 hip ed
    generalize xs[i].dir = d at *
    cases d with
    | true =>
      have hE2 : E = 0 := by simpa using hE.symm
      subst hE2
      clear hE
      go_enter Try.func37, Try.ntmps37
      go_wp2_with (refine (CF.out _ H2.out).mono ?_; rintro e w1 ⟨rfl, c1⟩; have c1c := bel_cell c1 H1.out)
      go_ret
      exact ⟨rfl, c1⟩
    | false =>
      have hE2 : E = 7 := by simpa using hE.symm
      subst hE2
      clear hE
      go_enter Try.func37, Try.ntmps37
      go_wp2_with (refine (CF.out _ H2.out).mono ?_; rintro e w1 ⟨rfl, c1⟩; have c1c := bel_cell c1 H1.out)
      go_ret
      exact ⟨rfl, c1⟩

set_option maxRecDepth 100000 in
theorem refuseParent_val {a : Option Addr} {n c : Nat} {xs : NS} {w : World} (h : NL w a n xs) (p : ByteArray) (hs : p.size ≤ maxLen) (E : Int) (hE : dirE xs (parD p) = E) :
    Calls Try.prog 28 #[.slice a n c, .string p] w fun e w' => e = .returned (.int .i64 E) ∧ Below w.heap.size w w' := by
  obtain ⟨⟨d, m, F⟩, hP⟩ : ∃ x, parentX p = x := ⟨_, rfl⟩
  have HP : Hid (parentX p = (d, m, F)) := hP
  have hd : parD p = d := by unfold parD; rw [hP]
  rw [hd] at hE
  have CR : Hid (∀ W, Below w.heap.size w W → Calls Try.prog 37 #[.slice a n c, .string d] W fun e w' => e = .returned (.int .i64 E) ∧ Below W.heap.size W w') := fun W hb => refuseDir_val (h.below hb) d E hE
  clear h hE hd hP
  go_enter Try.func28, Try.ntmps28
  go_wp2_with (first
    | (go_at_call 39; refine (parent_val p d m F _ hs HP.out).mono ?_; rintro e w1 ⟨rfl, c1⟩)
    | (go_at_call 37; refine (CR.out _ c1).mono ?_; rintro e w2 ⟨rfl, c2⟩))
  go_ret
  exact ⟨rfl, bel_tr c1 c2⟩

end Go.Proofs.Ytlfehfajaelmlaa
