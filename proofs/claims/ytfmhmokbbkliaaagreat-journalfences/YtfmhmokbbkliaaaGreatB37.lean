/- Part 37 of the proof: JrnL1, JrnL2. -/
import Derived.Test.YtfmhmokbbkliaaaGreatB28
import Derived.Test.YtfmhmokbbkliaaaGreatB29
import Derived.Test.YtfmhmokbbkliaaaGreatB30
import Derived.Test.YtfmhmokbbkliaaaGreatB33
import Derived.Test.YtfmhmokbbkliaaaGreatB36
import Derived.BigQuiet
import Derived.Lib.QuietBelow

/- The contracts of tabulariumlaw15.pick, accept, add, said, begins, asked. -/
namespace Go.Proofs.YtfmhmokbbkliaaaGreat.Jrn
open Go.RowKit Go.Proofs.YtfmhmokbbkliaaaGreat Go.Proofs.YtfmhmokbbkliaaaGreat.Wir Go.Proofs.YtfmhmokbbkliaaaGreat.Lgg Go.Proofs.YtfmhmokbbkliaaaGreat.Sep
open Go.Proofs.YtfmhmokbbkliaaaGreat.Smm (bytes_ne)
set_option linter.unusedVariables false

set_option maxRecDepth 100000 in
theorem pick15_val (k : Int) (n Q : Nat) (w : World) (hk : -9223372036854775808 ≤ k ∧ k ≤ 9223372036854775807) (hn : 0 < n ∧ n ≤ 1000) (hQ : keepN k % n = Q) :
    Calls Tryz.prog 23 #[.int .i64 k, .int .i64 n] w fun e w' => e = .returned (.int .i64 Q) ∧ w' = w := by
  have hlt := Nat.mod_lt (keepN k) hn.1
  rw [hQ] at hlt
  unfold keepN at hQ
  by_cases hneg : k < 0
  · rw [if_pos hneg] at hQ
    obtain ⟨kn, hkn⟩ : ∃ kn, (-(k + 1)).toNat = kn := ⟨_, rfl⟩
    rw [hkn] at hQ
    have hkk : -(k + 1) = (kn : Int) := by omega
    have hr1 : (kn : Int).tmod (n : Int) = (Q : Int) := by rw [Int.tmod_eq_emod_of_nonneg (by omega), ← hQ]; rfl
    have hr2 : (kn : Int) % (n : Int) = (Q : Int) := by rw [← hQ]; rfl
    clear hQ hkn
    go_enter Tryz.func23, Tryz.ntmps23
    go_wp2
    go_ret
    exact ⟨rfl, rfl⟩
  · rw [if_neg hneg] at hQ
    obtain ⟨kn, hkn⟩ : ∃ kn, k.toNat = kn := ⟨_, rfl⟩
    rw [hkn] at hQ
    obtain rfl : k = (kn : Int) := by omega
    have hr1 : (kn : Int).tmod (n : Int) = (Q : Int) := by rw [Int.tmod_eq_emod_of_nonneg (by omega), ← hQ]; rfl
    have hr2 : (kn : Int) % (n : Int) = (Q : Int) := by rw [← hQ]; rfl
    clear hQ hkn
    go_enter Tryz.func23, Tryz.ntmps23
    go_wp2
    go_ret
    exact ⟨rfl, rfl⟩

set_option maxRecDepth 100000 in
theorem said_val (s : ByteArray) (hs : s.size ≤ maxLen) (q : Int) (hq : (toldP s).2 = q) (w : World) :
    Calls Tryz.prog 41 #[.string s] w fun e w' => e = .returned (.int .i64 q) ∧ Below w.heap.size w w' := by
  have hst2 : ∀ (w : World) (a : Addr) (x : Option Addr) (n c : Nat) (m : Mode), (store a (.slice x n c) m).run Tryz.prog w = stored Tryz.prog w a (.slice x n c) m := fun w a x n c m => run_store (P := Tryz.prog) w a _ m rfl
  obtain ⟨⟨⟨ep, es⟩, er⟩, hx⟩ : ∃ x, toldP s = x := ⟨_, rfl⟩
  have CT : Hid (∀ W, Calls Tryz.prog 14 #[.string s] W fun e w' => LgE W.heap.size ⟨ep, es⟩ er e w' ∧ Below W.heap.size W w') := fun W => by have := told_val s hs W; rw [hx] at this; exact this
  rw [hx] at hq
  replace hq : er = q := hq
  subst hq
  clear hx hs
  obtain ⟨n, hn⟩ : ∃ n, es.length = n := ⟨_, rfl⟩
  have HN : Hid (es.length = n) := hn
  clear hn
  go_enter Tryz.func41, Tryz.ntmps41
  go_wp2_with (go_at_call 14; refine (CT.out _).mono ?_; rintro e w1 ⟨⟨a, c, g, hx, hC⟩, b1⟩; simp only [HN.out] at hx; subst hx; have B1 : Hid (Below w.heap.size w w1) := b1; clear b1 hC)
  go_ret
  exact ⟨rfl, bel_tr B1.out (bel_al _ _)⟩

theorem rt_one : RtL ⟨1, []⟩ := ⟨rfl, by simp, fun i h => by simp at h⟩
set_option maxRecDepth 100000 in
theorem accept15_val (w : World) : Calls Tryz.prog 43 #[.int .i64 1, .slice none 0 0] w fun e w' => e = .returned (.string (joinT (accTs 1 []))) ∧ Below w.heap.size w w' := by
  obtain ⟨J, hJ⟩ : ∃ J, joinT (accTs 1 []) = J := ⟨_, rfl⟩
  have CA : Hid (∀ W, Calls Tryz.prog 10 #[.int .i64 1, .slice none 0 0] W fun e w' => e = .returned (.tuple #[.string J, .int .i64 0]) ∧ Below W.heap.size W w') := fun W => accept_yes (Lie.nil enC (fun _ => True) W none) 1 0 0 rfl rt_one J hJ
  rw [hJ]
  clear hJ
  go_enter Tryz.func43, Tryz.ntmps43
  go_wp2_with (go_at_call 10; refine (CA.out _).mono ?_; rintro e w1 ⟨rfl, b1⟩)
  go_ret
  exact ⟨rfl, b1⟩

set_option maxRecDepth 100000 in
theorem add15_val (ep : Int) (h0 : -9223372036854775808 ≤ ep) (h1 : ep ≤ 9223372036854775807) (tx : Int) (d : ByteArray) (hv : addR1 ⟨tx, d⟩ = true) (w : World) : Calls Tryz.prog 42 #[.int .i64 ep, .int .i64 tx, .string d] w fun e w' => e = .returned (.string (joinT [wT, numT ep, numT tx, d])) ∧ Below w.heap.size w w' := by
  obtain ⟨J, hJ⟩ : ∃ J, joinT [wT, numT ep, numT tx, d] = J := ⟨_, rfl⟩
  have CA : Hid (∀ W, Calls Tryz.prog 12 #[.int .i64 ep, .agg #[.int .i64 tx, .string d]] W fun e w' => e = .returned (.tuple #[.string J, .int .i64 0]) ∧ Below W.heap.size W w') := fun W => add_yes ep h0 h1 ⟨tx, d⟩ hv W J hJ
  rw [hJ]
  clear hJ hv h0 h1
  go_enter Tryz.func42, Tryz.ntmps42
  go_wp2_with (go_at_call 12; refine (CA.out _).mono ?_; rintro e w1 ⟨rfl, b1⟩)
  go_ret
  exact ⟨rfl, b1⟩

set_option maxRecDepth 100000 in
set_option maxHeartbeats 2000000 in
theorem begins15_val {O O2 : Nat → Prop} {w : World} {a a' : Option Addr} {xs ys : List En} (h1 : Lie enC O w a xs) (h2 : Lie enC O2 w a' ys) (n m c c' : Nat) (hn : xs.length = n) (hm : ys.length = m) (v : Bool) (hv : v = true ↔ xs.take ys.length = ys) :
    Calls Tryz.prog 40 #[.slice a n c, .slice a' m c'] w fun e w' => e = .returned (.bool v) ∧ Below w.heap.size w w' := by
  have hl1 := h1.lid
  rw [hn] at hl1
  unfold maxLen at hl1
  have H1 : Hid (Lie enC O w a xs) := h1
  have H2 : Hid (Lie enC O2 w a' ys) := h2
  have HN : Hid (xs.length = n) := hn
  have HM : Hid (ys.length = m) := hm
  have HV : Hid (v = true ↔ xs.take ys.length = ys) := hv
  clear h1 h2 hn hm hv
  by_cases hnm : n < m
  · have hvf : v = false := by
      cases v with
      | false => rfl
      | true =>
        have := congrArg List.length (HV.out.1 rfl)
        rw [List.length_take, HN.out, HM.out] at this
        omega
    subst hvf
    clear HV
    go_enter Tryz.func40, Tryz.ntmps40
    go_wp2
    go_ret
    exact ⟨rfl, Below.refl _ _⟩
  · go_enter Tryz.func40, Tryz.ntmps40
    go_wp2
    go_loopw [5] (fun u wr => ∃ i d : Nat, i ≤ m ∧ u = .int .i64 i ∧ wr = w.drewN d ∧ ∀ j (h1 : j < xs.length) (h2 : j < ys.length), j < i → xs[j] = ys[j]) (fun u _ => m - (intOf u).toNat)
    case atStart => exact ⟨0, 0, by omega, rfl, rfl, fun j _ _ h => by omega⟩
    case round =>
      obtain ⟨i, d, hi, rfl, hd, hall⟩ := hrel
      by_cases hlt : i < m
      · have e1 : i < xs.length := by rw [HN.out]; omega
        have e2 : i < ys.length := by rw [HM.out]; exact hlt
        have hb : Below w.heap.size w wr := by rw [hd]; exact bel_dr _ _
        obtain ⟨b, off, rfl, hc⟩ := (H1.out.below hb).at wideN e1
        obtain ⟨b', off', rfl, hc'⟩ := (H2.out.below hb).at wideN e2
        have hno : ¬ xs[i] = ys[i] → v = false := fun hno => by
          cases v with
          | false => rfl
          | true =>
            have h9 := HV.out.1 rfl
            have h8 : (xs.take ys.length)[i]? = ys[i]? := by rw [h9]
            rw [List.getElem?_take, if_pos e2, List.getElem?_eq_getElem e1, List.getElem?_eq_getElem e2] at h8
            exact absurd (Option.some.inj h8) hno
        have HNX : Hid (xs[i] = ys[i] → ∀ j (h1 : j < xs.length) (h2 : j < ys.length), j < i + 1 → xs[j] = ys[j]) := fun hk j h1 h2 hji => by
          rcases Nat.lt_or_ge j i with h | h
          · exact hall j h1 h2 h
          · obtain rfl : j = i := by omega
            exact hk
        have hin : i < n := by omega
        generalize xs[i] = x at *
        generalize ys[i] = y at *
        obtain ⟨tx, dx⟩ := x
        obtain ⟨ty, dy⟩ := y
        have q0 : wr.cell? ⟨b, off + i * 2, none⟩ = some (.int .i64 tx) := hc 0 _ rfl
        have q1 : wr.cell? ⟨b, off + i * 2 + 1, none⟩ = some (.string dx) := hc 1 _ rfl
        have r0 : wr.cell? ⟨b', off' + i * 2, none⟩ = some (.int .i64 ty) := hc' 0 _ rfl
        have r1 : wr.cell? ⟨b', off' + i * 2 + 1, none⟩ = some (.string dy) := hc' 1 _ rfl
        have HD : Hid (wr = w.drewN d) := hd
        clear hd hc hc' hb H1 H2 hall
        by_cases hx : tx = ty
        · by_cases hs : dx = dy
          · have HK : Hid (∀ j (h1 : j < xs.length) (h2 : j < ys.length), j < i + 1 → xs[j] = ys[j]) := HNX.out (by rw [hx, hs])
            subst hx hs
            clear hno HNX
            go_wp2
            go_quiet (fail)
            go_wp2
            go_roundw
            case rel => exact ⟨i + 1, d + nq, by omega, by go_num, by rw [HD.out, World.drewN_drewN], HK.out⟩
            case measure => simp [intOf]; omega
          · have hvf := hno (fun e => by injection e with _ e2; exact hs e2)
            have hbe := bytes_ne hs
            subst hx hvf
            clear hno HNX HV hs
            go_wp2
            go_quiet (fail)
            go_wp2
            go_ret
            exact ⟨rfl, by rw [HD.out, World.drewN_drewN]; exact bel_dr _ _⟩
        · have hvf := hno (fun e => by injection e with e2 _; exact hx e2)
          subst hvf
          clear hno HNX HV
          go_wp2
          go_quiet (fail)
          go_wp2
          go_ret
          exact ⟨rfl, by rw [HD.out, World.drewN_drewN]; exact bel_dr _ _⟩
      · have hvt : v = true := HV.out.2 (List.ext_getElem (by rw [List.length_take, HN.out, HM.out]; omega) (fun j h1 h2 => by rw [List.getElem_take]; exact hall j (by have := HN.out; have := HM.out; omega) h2 (by have := HM.out; omega)))
        subst hvt
        have HD : Hid (wr = w.drewN d) := hd
        clear hd hall HV
        go_wp2
        go_ret
        exact ⟨rfl, by rw [HD.out]; exact bel_dr _ _⟩

/-! ### what a deed asks -/
def rtB (ep : Int) (es : List En) : Bool := epOk ep && decide (es.length ≤ 300) && decide (∀ i : Fin es.length, es[i].tx = ((i.1 + 1 : Nat) : Int) ∧ es[i].d.size ≤ 600)
theorem rtB_iff (ep : Int) (es : List En) : rtB ep es = true ↔ RtL ⟨ep, es⟩ := by
  unfold rtB
  simp only [Bool.and_eq_true, decide_eq_true_eq]
  constructor
  · rintro ⟨⟨h1, h2⟩, h3⟩
    exact ⟨h1, h2, fun i hi => h3 ⟨i, hi⟩⟩
  · rintro ⟨h1, h2, h3⟩
    exact ⟨⟨h1, h2⟩, fun i => h3 i.1 i.2⟩
def askT (k ep : Int) (es : List En) (x : En) (raw : ByteArray) : ByteArray :=
  if keepN k % 8 = 0 then joinT [pT, numT ep]
  else if keepN k % 8 = 1 then (if rtB ep es = true then joinT (accTs ep es) else ⟨#[]⟩)
  else if keepN k % 8 ≤ 4 then (if addR1 x = true then joinT [wT, numT ep, numT x.tx, x.d] else ⟨#[]⟩)
  else raw
theorem ask_small {k ep : Int} {es : List En} {x : En} {raw : ByteArray} (h : raw.size ≤ maxLen) : (askT k ep es x raw).size ≤ maxLen := by
  unfold askT
  split
  · exact join_small
  · split
    · split
      · exact join_small
      · exact Nat.zero_le _
    · split
      · split
        · exact join_small
        · exact Nat.zero_le _
      · exact h

theorem cells8 (w : World) (v0 v1 v2 v3 v4 v5 v6 v7 : Value) (t : TypeId) :
    (w.alloc (.cells #[v0, v1, v2, v3, v4, v5, v6, v7] t)).cell? ⟨w.heap.size, 0, none⟩ = some v0 ∧ (w.alloc (.cells #[v0, v1, v2, v3, v4, v5, v6, v7] t)).cell? ⟨w.heap.size, 1, none⟩ = some v1 ∧ (w.alloc (.cells #[v0, v1, v2, v3, v4, v5, v6, v7] t)).cell? ⟨w.heap.size, 2, none⟩ = some v2 ∧ (w.alloc (.cells #[v0, v1, v2, v3, v4, v5, v6, v7] t)).cell? ⟨w.heap.size, 3, none⟩ = some v3 ∧ (w.alloc (.cells #[v0, v1, v2, v3, v4, v5, v6, v7] t)).cell? ⟨w.heap.size, 4, none⟩ = some v4 ∧ (w.alloc (.cells #[v0, v1, v2, v3, v4, v5, v6, v7] t)).cell? ⟨w.heap.size, 5, none⟩ = some v5 :=
  ⟨World.cell?_alloc_new w _ _ 0, World.cell?_alloc_new w _ _ 1, World.cell?_alloc_new w _ _ 2, World.cell?_alloc_new w _ _ 3, World.cell?_alloc_new w _ _ 4, World.cell?_alloc_new w _ _ 5⟩

set_option maxRecDepth 100000 in
set_option maxHeartbeats 2000000 in
theorem asked_val {O : Nat → Prop} {w : World} (k ep : Int) (a : Option Addr) (n c : Nat) (es : List En) (x : En) (raw : ByteArray) (mm : Int) (ka : Option Addr) (kn kc : Nat) (h : Lie enC O w a es) (hd : ∀ y ∈ es, y.d.size ≤ maxLen) (hk : -9223372036854775808 ≤ k ∧ k ≤ 9223372036854775807) (he : -9223372036854775808 ≤ ep ∧ ep ≤ 9223372036854775807) (hx : x.d.size ≤ maxLen) (hn : es.length = n) (T : ByteArray) (hT : askT k ep es x raw = T) :
    Calls Tryz.prog 29 #[.agg #[.int .i64 k, .int .i64 ep, .slice a n c, .int .i64 x.tx, .string x.d, .string raw, .int .i64 mm, .slice ka kn kc]] w fun e w' => e = .returned (.string T) ∧ Below w.heap.size w w' := by
  obtain ⟨Q, hQ⟩ : ∃ Q, keepN k % 8 = Q := ⟨_, rfl⟩
  have hlt : Q < 8 := by rw [← hQ]; exact Nat.mod_lt _ (by omega)
  have CP : Hid (∀ W, Calls Tryz.prog 23 #[.int .i64 k, .int .i64 8] W fun e w' => e = .returned (.int .i64 Q) ∧ w' = W) := fun W => pick15_val k 8 Q W hk (by omega) hQ
  unfold askT at hT
  rw [hQ] at hT
  obtain ⟨tx, d⟩ := x
  simp only at hx hT ⊢
  obtain ⟨q0, q1, q2, q3, q4, q5⟩ := cells8 w (.int .i64 k) (.int .i64 ep) (.slice a n c) (.int .i64 tx) (.string d) (.string raw) (.int .i64 mm) (.slice ka kn kc) 55
  have HB : Hid (Below w.heap.size w (w.alloc (.cells #[.int .i64 k, .int .i64 ep, .slice a n c, .int .i64 tx, .string d, .string raw, .int .i64 mm, .slice ka kn kc] 55))) := bel_al _ _
  have LW : Hid (Lie enC O (w.alloc (.cells #[.int .i64 k, .int .i64 ep, .slice a n c, .int .i64 tx, .string d, .string raw, .int .i64 mm, .slice ka kn kc] 55)) a es) := h.below (bel_al _ _)
  have HE : Hid ((-9223372036854775808 ≤ ep ∧ ep ≤ 9223372036854775807) ∧ (∀ y ∈ es, y.d.size ≤ maxLen) ∧ d.size ≤ maxLen ∧ es.length = n) := ⟨he, hd, hx, hn⟩
  obtain ⟨R, hR⟩ : ∃ R, w.heap.size = R := ⟨_, rfl⟩
  rw [hR] at q0 q1 q2 q3 q4 q5
  have HR : Hid (w.heap.size = R) := hR
  clear hQ h hd hk he hx hn
  go_enter Tryz.func29, Tryz.ntmps29
  go_upto_region 1 with fail
  try rw [hR]
  clear hR
  generalize w.alloc (.cells #[.int .i64 k, .int .i64 ep, .slice a n c, .int .i64 tx, .string d, .string raw, .int .i64 mm, .slice ka kn kc] 55) = W1 at *
  have hways : Q = 0 ∨ Q = 1 ∨ Q = 2 ∨ Q = 3 ∨ Q = 4 ∨ Q = 5 ∨ Q = 6 ∨ Q = 7 := by omega
  clear hlt
  rcases hways with rfl | rfl | rfl | rfl | rfl | rfl | rfl | rfl
  · rw [if_pos rfl] at hT
    have CC : Hid (∀ W, Calls Tryz.prog 18 #[.int .i64 ep] W fun e w' => e = .returned (.string T) ∧ Below W.heap.size W w') := fun W => refPromise_val ep HE.out.1.1 HE.out.1.2 W T hT
    clear hT
    go_wp2_with (first
      | (go_at_call 23; refine (CP.out _).mono ?_; rintro e w1 ⟨rfl, hwy⟩; have hwz := hwy.symm; subst hwz; clear hwy)
      | (go_at_call 18; refine (CC.out _).mono ?_; rintro e w2 ⟨rfl, b2⟩))
    go_ret
    exact ⟨rfl, bel_tr HB.out b2⟩
  · rw [if_neg (by omega), if_pos rfl] at hT
    cases hv : rtB ep es with
    | true =>
      rw [hv, if_pos rfl] at hT
      have CC : Hid (Calls Tryz.prog 11 #[.int .i64 ep, .slice a n c] W1 fun e w' => e = .returned (.tuple #[.string T, .bool true]) ∧ Below W1.heap.size W1 w') := refAcceptQ_yes LW.out ep n c HE.out.2.2.2 ((rtB_iff _ _).1 hv) T hT
      clear hT hv
      go_wp2_with (first
        | (go_at_call 23; refine (CP.out _).mono ?_; rintro e w1 ⟨rfl, hwy⟩; have hwz := hwy.symm; subst hwz; clear hwy)
        | (go_at_call 11; refine CC.out.mono ?_; rintro e w2 ⟨rfl, b2⟩))
      go_ret
      exact ⟨rfl, bel_tr HB.out b2⟩
    | false =>
      rw [hv, if_neg (by simp)] at hT
      subst hT
      have CC : Hid (Calls Tryz.prog 11 #[.int .i64 ep, .slice a n c] W1 fun e w' => e = .returned (.tuple #[.string ⟨#[]⟩, .bool false]) ∧ Below W1.heap.size W1 w') := refAcceptQ_no LW.out HE.out.2.1 ep n c HE.out.2.2.2 (fun e => by rw [(rtB_iff _ _).2 e] at hv; cases hv)
      clear hv
      go_wp2_with (first
        | (go_at_call 23; refine (CP.out _).mono ?_; rintro e w1 ⟨rfl, hwy⟩; have hwz := hwy.symm; subst hwz; clear hwy)
        | (go_at_call 11; refine CC.out.mono ?_; rintro e w2 ⟨rfl, b2⟩))
      go_ret
      exact ⟨rfl, bel_tr HB.out b2⟩
  all_goals try (
    rw [if_neg (by omega), if_neg (by omega), if_pos (by omega)] at hT
    cases hv : addR1 ⟨tx, d⟩ with
    | true =>
      rw [hv, if_pos rfl] at hT
      have CC : Hid (∀ W, Calls Tryz.prog 13 #[.int .i64 ep, .agg #[.int .i64 tx, .string d]] W fun e w' => e = .returned (.tuple #[.string T, .bool true]) ∧ Below W.heap.size W w') := fun W => refAddQ_yes ep HE.out.1.1 HE.out.1.2 ⟨tx, d⟩ hv W T hT
      clear hT hv
      go_wp2_with (first
        | (go_at_call 23; refine (CP.out _).mono ?_; rintro e w1 ⟨rfl, hwy⟩; have hwz := hwy.symm; subst hwz; clear hwy)
        | (go_at_call 13; refine (CC.out _).mono ?_; rintro e w2 ⟨rfl, b2⟩))
      go_ret
      exact ⟨rfl, bel_tr HB.out b2⟩
    | false =>
      rw [hv, if_neg (by simp)] at hT
      subst hT
      have CC : Hid (∀ W, Calls Tryz.prog 13 #[.int .i64 ep, .agg #[.int .i64 tx, .string d]] W fun e w' => e = .returned (.tuple #[.string ⟨#[]⟩, .bool false]) ∧ Below W.heap.size W w') := fun W => refAddQ_no ep ⟨tx, d⟩ HE.out.2.2.1 hv W
      clear hv
      go_wp2_with (first
        | (go_at_call 23; refine (CP.out _).mono ?_; rintro e w1 ⟨rfl, hwy⟩; have hwz := hwy.symm; subst hwz; clear hwy)
        | (go_at_call 13; refine (CC.out _).mono ?_; rintro e w2 ⟨rfl, b2⟩))
      go_ret
      exact ⟨rfl, bel_tr HB.out b2⟩)
  all_goals
    rw [if_neg (by omega), if_neg (by omega), if_neg (by omega)] at hT
    subst hT
    go_wp2_with (first
      | (go_at_call 23; refine (CP.out _).mono ?_; rintro e w1 ⟨rfl, hwy⟩; have hwz := hwy.symm; subst hwz; clear hwy))
    go_ret
    exact ⟨rfl, HB.out⟩

end Go.Proofs.YtfmhmokbbkliaaaGreat.Jrn

/- A node in a law's walk; the contract of tabulariumlaw15.examples. -/
namespace Go.Proofs.YtfmhmokbbkliaaaGreat.Jrn
open Go.RowKit Go.Proofs.YtfmhmokbbkliaaaGreat Go.Proofs.YtfmhmokbbkliaaaGreat.Wir Go.Proofs.YtfmhmokbbkliaaaGreat.Lgg Go.Proofs.YtfmhmokbbkliaaaGreat.Sep
set_option linter.unusedVariables false

theorem ans_small (e : Int) (ps : List ByteArray) : (ansT e ps).size ≤ maxLen := join_small
theorem hand_small (ds : DS) (j : Nd) (s : ByteArray) : (handQ ds j s).t.size ≤ maxLen := by
  unfold handQ
  split
  · exact ans_small _ _
  · split
    · exact ans_small _ _
    · exact ans_small _ _
theorem cel_nil {O : Nat → Prop} {w : World} {n c : Nat} {es : List En} {g : Option Nat} (h : Cel O w 2 (.slice none n c) n (rowC enC es) g) (hn : es.length = n) : es = [] := by
  obtain ⟨v, hv⟩ : ∃ v, Value.slice none n c = v := ⟨_, rfl⟩
  rw [hv] at h
  cases h with
  | nil h1 h2 h3 => exact List.eq_nil_of_length_eq_zero (by omega)
  | row => rename_i h1 _ _ _ _ _ _ _; rw [h1] at hv; cases hv

section
variable {w w1 : World} {O : Nat → Prop} {L M : List Th} {jp pd : Nat} {ds ds' : DS} {j j' : Nd}
theorem open_hz (h : Hz w O (dsk pd ds :: M) w1) (hq : openQ ds = (0, ds', j)) :
    Calls Tryz.prog 21 #[.pointer (some ⟨pd, 0, none⟩)] w1 fun e w' => ∃ jp, e = .returned (.tuple #[.pointer (some ⟨jp, 0, none⟩), .int .i64 0]) ∧ Hz w O (jr jp pd ds' j :: M) w' := by
  obtain ⟨O1, k1, k2, k3⟩ := h.out 0 rfl
  refine (open_val k1).mono fun e w' hR => ?_
  rw [hq] at hR
  obtain ⟨jp, h1, h2⟩ := hR.yes rfl
  exact ⟨jp, h1, k3 (jr jp pd ds' j) w' h2.done.1 h2.done.2⟩
theorem hand_hz (h : Hz w O L w1) (i : Nat) (hi : L[i]? = some (jr jp pd ds j)) (hj : NdOk j) (s : ByteArray) (hs : s.size ≤ maxLen) (q : Int) (hq : handE ds j s = q) (hj' : (handQ ds j s).j = j') (hd : (handQ ds j s).ds = ds') :
    Calls Tryz.prog 28 #[.pointer (some ⟨jp, 0, none⟩), .string s] w1 fun e w' => ∃ T : ByteArray, e = .returned (.string T) ∧ T.size ≤ maxLen ∧ (toldP T).2 = q ∧ Hz w O (L.set i (jr jp pd ds' j')) w' := by
  refine (h.act i hi (handle_acts hj s hs)).mono fun e w' ⟨h1, h2⟩ => ⟨_, h1, hand_small _ _ _, by rw [hand_err hj, hq], ?_⟩
  rw [hj', hd] at h2
  exact h2
theorem jr_get (h : Hz w O L w1) (i : Nat) (hi : L[i]? = some (jr jp pd ds j)) : ∃ (O1 : Nat → Prop) (a : Option Addr) (c : Nat) (g : Option Nat), w1.cell? ⟨jp, 1, none⟩ = some (.int .i64 j.p) ∧ w1.cell? ⟨jp, 2, none⟩ = some (.int .i64 j.l.ep) ∧ w1.cell? ⟨jp, 3, none⟩ = some (.slice a j.l.es.length c) ∧ w1.cell? ⟨jp, 4, none⟩ = some (.bool j.gone) ∧ Cel O1 w1 2 (.slice a j.l.es.length c) j.l.es.length (rowC enC j.l.es) g := by
  obtain ⟨O1, ⟨a, c, g⟩, hS⟩ := h.get i hi
  have hz : Hz w1 O1 (jrL jp pd ds j a c g) w1 := Hz.start hS
  obtain ⟨x0, x1, x2, x3, x4, fx⟩ := jr_cells hz
  obtain ⟨O3, hC⟩ := jr_row hz
  exact ⟨O3, a, c, g, x1, x2, x3, x4, hC⟩
theorem promised_hz (h : Hz w O L w1) (i : Nat) (hi : L[i]? = some (jr jp pd ds j)) :
    Calls Tryz.prog 39 #[.pointer (some ⟨jp, 0, none⟩)] w1 fun e w' => e = .returned (.int .i64 j.p) ∧ w' = w1 := by
  obtain ⟨O1, a, c, g, x1, x2, x3, x4, hC⟩ := jr_get h i hi
  exact promised_val x1
theorem dead_hz (h : Hz w O L w1) (i : Nat) (hi : L[i]? = some (jr jp pd ds j)) :
    Calls Tryz.prog 38 #[.pointer (some ⟨jp, 0, none⟩)] w1 fun e w' => e = .returned (.bool j.gone) ∧ w' = w1 := by
  obtain ⟨O1, a, c, g, x1, x2, x3, x4, hC⟩ := jr_get h i hi
  exact dead_val x4
theorem log_hz (h : Hz w O L w1) (i : Nat) (hi : L[i]? = some (jr jp pd ds j)) (hj : NdOk j) :
    Calls Tryz.prog 37 #[.pointer (some ⟨jp, 0, none⟩)] w1 fun e w' => LogC w1.heap.size j.l e w' ∧ Below w1.heap.size w1 w' := by
  obtain ⟨O1, a, c, g, x1, x2, x3, x4, hC⟩ := jr_get h i hi
  exact log_val x2 x3 (Lie.of_cel wideN hC) (fun e => by subst e; exact cel_nil hC rfl) rfl (by have := hj.log.2.1; omega)
end

theorem fldL (e : Int) (a : Option Addr) (n c : Nat) (w : World) : (Instr.field 34 (.agg #[.int .i64 e, .slice a n c]) 1).run Tryz.prog w = .ok (.slice a n c) w := by kernel_rfl

set_option maxRecDepth 100000 in
set_option maxHeartbeats 4000000 in
theorem examples15_val (w : World) : Calls Tryz.prog 9 #[] w fun e w' => e = .returned (.bool true) ∧ Below w.heap.size w w' := by
  have CP : Hid (∀ W, Calls Tryz.prog 17 #[.int .i64 1] W fun e w' => e = .returned (.string sP) ∧ Below W.heap.size W w') := fun W => promise_val 1 (by omega) (by omega) W _ rfl
  have CA : Hid (∀ W, Calls Tryz.prog 43 #[.int .i64 1, .slice none 0 0] W fun e w' => e = .returned (.string sA) ∧ Below W.heap.size W w') := accept15_val
  have CW : Hid (∀ W, Calls Tryz.prog 42 #[.int .i64 1, .int .i64 1, .string ⟨#[120]⟩] W fun e w' => e = .returned (.string sW) ∧ Below W.heap.size W w') := add15_val 1 (by omega) (by omega) 1 ⟨#[120]⟩ (by decide)
  have CY : Hid (∀ W, Calls Tryz.prog 42 #[.int .i64 1, .int .i64 3, .string ⟨#[121]⟩] W fun e w' => e = .returned (.string sY) ∧ Below W.heap.size W w') := add15_val 1 (by omega) (by omega) 3 ⟨#[121]⟩ (by decide)
  have SZ : Hid (sP.size ≤ maxLen ∧ sA.size ≤ maxLen ∧ sW.size ≤ maxLen ∧ sY.size ≤ maxLen) := ⟨join_small, join_small, join_small, join_small⟩
  have HN : Hid (∀ ds, openQ ds = openQ ds) := fun _ => rfl
  have EJ : Hid (handE D0 nd0 sP = 0 ∧ (handQ D0 nd0 sP).j = j1) := ex_j
  have EJ2 : Hid (∀ ds, handE ds j1 sP = 10 ∧ (handQ ds j1 sP).j = j1 ∧ (handQ ds j1 sP).ds = ds) := ex_j2
  have EJ3 : Hid (∀ ds, handE ds j1 sW = 10 ∧ (handQ ds j1 sW).j = j1 ∧ (handQ ds j1 sW).ds = ds) := ex_j3
  have EK : Hid (handE D0 nd0 sA = 0 ∧ (handQ D0 nd0 sA).j = k1 ∧ handE (handQ D0 nd0 sA).ds k1 sW = 0 ∧ (handQ (handQ D0 nd0 sA).ds k1 sW).j = k2) := ex_k
  have EK3 : Hid (∀ ds, handE ds k2 sY = 11 ∧ (handQ ds k2 sY).j = k2 ∧ (handQ ds k2 sY).ds = ds) := ex_k3
  have HO : Hid (openQ D0 = (0, D0, nd0)) := open_none 1000
  generalize sP = SP at *
  generalize sA = SA at *
  generalize sW = SW at *
  generalize sY = SY at *
  obtain ⟨e1, e2⟩ := EJ.out
  clear EJ HN
  generalize hd1 : (handQ D0 nd0 SP).ds = d1
  have HD1 : Hid ((handQ D0 nd0 SP).ds = d1) := hd1
  have EJ : Hid (handE D0 nd0 SP = 0 ∧ (handQ D0 nd0 SP).j = j1) := ⟨e1, e2⟩
  clear hd1 e1 e2
  obtain ⟨e1, e2, e3, e4⟩ := EK.out
  clear EK
  obtain ⟨d2, hd2⟩ : ∃ d2, (handQ D0 nd0 SA).ds = d2 := ⟨_, rfl⟩
  rw [hd2] at e3 e4
  obtain ⟨d3, hd3⟩ : ∃ d3, (handQ d2 k1 SW).ds = d3 := ⟨_, rfl⟩
  have EK : Hid ((handE D0 nd0 SA = 0 ∧ (handQ D0 nd0 SA).j = k1 ∧ (handQ D0 nd0 SA).ds = d2) ∧ (handE d2 k1 SW = 0 ∧ (handQ d2 k1 SW).j = k2 ∧ (handQ d2 k1 SW).ds = d3)) := ⟨⟨e1, e2, hd2⟩, ⟨e3, e4, hd3⟩⟩
  clear e1 e2 e3 e4 hd2 hd3
  have hst2 : ∀ (w : World) (a : Addr) (x : Option Addr) (n c : Nat) (m : Mode), (store a (.slice x n c) m).run Tryz.prog w = stored Tryz.prog w a (.slice x n c) m := fun w a x n c m => run_store (P := Tryz.prog) w a _ m rfl
  have hfl := fldL
  go_enter Tryz.func9, Tryz.ntmps9
  go_wp2_with fail
  refine (new_hz (hz_none w) 1000 1000 (by omega) (by omega)).mono ?_
  rintro e w1 ⟨dj, rfl, hz⟩
  have HZ1 : Hid (Hz w (fun _ => False) [dsk dj D0] w1) := hz
  clear hz
  go_wp2_with fail
  refine (open_hz HZ1.out HO.out).mono ?_
  rintro e w2 ⟨jp, rfl, hz⟩
  have HZ2 : Hid (Hz w (fun _ => False) [jr jp dj D0 nd0] w2) := hz
  clear hz HZ1
  go_wp2_with fail
  refine (new_hz HZ2.out 1000 1000 (by omega) (by omega)).mono ?_
  rintro e w3 ⟨dk, rfl, hz⟩
  have HZ3 : Hid (Hz w (fun _ => False) [dsk dk D0, jr jp dj D0 nd0] w3) := hz
  clear hz HZ2
  go_wp2_with fail
  refine (open_hz HZ3.out HO.out).mono ?_
  rintro e w4 ⟨kp, rfl, hz⟩
  have HZ4 : Hid (Hz w (fun _ => False) [jr kp dk D0 nd0, jr jp dj D0 nd0] w4) := hz
  clear hz HZ3
  go_wp2_with fail
  refine (CP.out _).mono ?_
  rintro e w5 ⟨rfl, b⟩
  have HZ5 : Hid (Hz w (fun _ => False) [jr kp dk D0 nd0, jr jp dj D0 nd0] w5) := HZ4.out.below b
  clear b HZ4
  go_wp2_with fail
  refine (hand_hz HZ5.out 1 rfl nd0_ok _ SZ.out.1 0 EJ.out.1 EJ.out.2 HD1.out).mono ?_
  rintro e w6 ⟨T, rfl, hT, hq, hz⟩
  have HZ6 : Hid (Hz w (fun _ => False) [jr kp dk D0 nd0, jr jp dj d1 j1] w6) := hz
  clear hz HZ5
  go_wp2_with fail
  refine (said_val T hT 0 hq _).mono ?_
  rintro e w7 ⟨rfl, b⟩
  have HZ7 : Hid (Hz w (fun _ => False) [jr kp dk D0 nd0, jr jp dj d1 j1] w7) := HZ6.out.below b
  clear b HZ6 hT hq
  go_wp2_with fail
  refine (CP.out _).mono ?_
  rintro e w8 ⟨rfl, b⟩
  have HZ8 : Hid (Hz w (fun _ => False) [jr kp dk D0 nd0, jr jp dj d1 j1] w8) := HZ7.out.below b
  clear b HZ7
  go_wp2_with fail
  refine (hand_hz HZ8.out 1 rfl j1_ok _ SZ.out.1 10 (EJ2.out d1).1 (EJ2.out d1).2.1 (EJ2.out d1).2.2).mono ?_
  rintro e w9 ⟨T, rfl, hT, hq, hz⟩
  have HZ9 : Hid (Hz w (fun _ => False) [jr kp dk D0 nd0, jr jp dj d1 j1] w9) := hz
  clear hz HZ8
  go_wp2_with fail
  refine (said_val T hT 10 hq _).mono ?_
  rintro e w10 ⟨rfl, b⟩
  have HZ10 : Hid (Hz w (fun _ => False) [jr kp dk D0 nd0, jr jp dj d1 j1] w10) := HZ9.out.below b
  clear b HZ9 hT hq
  go_wp2_with fail
  refine (CW.out _).mono ?_
  rintro e w11 ⟨rfl, b⟩
  have HZ11 : Hid (Hz w (fun _ => False) [jr kp dk D0 nd0, jr jp dj d1 j1] w11) := HZ10.out.below b
  clear b HZ10
  go_wp2_with fail
  refine (hand_hz HZ11.out 1 rfl j1_ok _ SZ.out.2.2.1 10 (EJ3.out d1).1 (EJ3.out d1).2.1 (EJ3.out d1).2.2).mono ?_
  rintro e w12 ⟨T, rfl, hT, hq, hz⟩
  have HZ12 : Hid (Hz w (fun _ => False) [jr kp dk D0 nd0, jr jp dj d1 j1] w12) := hz
  clear hz HZ11
  go_wp2_with fail
  refine (said_val T hT 10 hq _).mono ?_
  rintro e w13 ⟨rfl, b⟩
  have HZ13 : Hid (Hz w (fun _ => False) [jr kp dk D0 nd0, jr jp dj d1 j1] w13) := HZ12.out.below b
  clear b HZ12 hT hq
  go_wp2_with fail
  refine (CA.out _).mono ?_
  rintro e w14 ⟨rfl, b⟩
  have HZ14 : Hid (Hz w (fun _ => False) [jr kp dk D0 nd0, jr jp dj d1 j1] w14) := HZ13.out.below b
  clear b HZ13
  go_wp2_with fail
  refine (hand_hz HZ14.out 0 rfl nd0_ok _ SZ.out.2.1 0 EK.out.1.1 EK.out.1.2.1 EK.out.1.2.2).mono ?_
  rintro e w15 ⟨T, rfl, hT, hq, hz⟩
  have HZ15 : Hid (Hz w (fun _ => False) [jr kp dk d2 k1, jr jp dj d1 j1] w15) := hz
  clear hz HZ14
  go_wp2_with fail
  refine (said_val T hT 0 hq _).mono ?_
  rintro e w16 ⟨rfl, b⟩
  have HZ16 : Hid (Hz w (fun _ => False) [jr kp dk d2 k1, jr jp dj d1 j1] w16) := HZ15.out.below b
  clear b HZ15 hT hq
  go_wp2_with fail
  refine (CW.out _).mono ?_
  rintro e w17 ⟨rfl, b⟩
  have HZ17 : Hid (Hz w (fun _ => False) [jr kp dk d2 k1, jr jp dj d1 j1] w17) := HZ16.out.below b
  clear b HZ16
  go_wp2_with fail
  refine (hand_hz HZ17.out 0 rfl k1_ok _ SZ.out.2.2.1 0 EK.out.2.1 EK.out.2.2.1 EK.out.2.2.2).mono ?_
  rintro e w18 ⟨T, rfl, hT, hq, hz⟩
  have HZ18 : Hid (Hz w (fun _ => False) [jr kp dk d3 k2, jr jp dj d1 j1] w18) := hz
  clear hz HZ17
  go_wp2_with fail
  refine (said_val T hT 0 hq _).mono ?_
  rintro e w19 ⟨rfl, b⟩
  have HZ19 : Hid (Hz w (fun _ => False) [jr kp dk d3 k2, jr jp dj d1 j1] w19) := HZ18.out.below b
  clear b HZ18 hT hq
  go_wp2_with fail
  refine (CY.out _).mono ?_
  rintro e w20 ⟨rfl, b⟩
  have HZ20 : Hid (Hz w (fun _ => False) [jr kp dk d3 k2, jr jp dj d1 j1] w20) := HZ19.out.below b
  clear b HZ19
  go_wp2_with fail
  refine (hand_hz HZ20.out 0 rfl k2_ok _ SZ.out.2.2.2 11 (EK3.out d3).1 (EK3.out d3).2.1 (EK3.out d3).2.2).mono ?_
  rintro e w21 ⟨T, rfl, hT, hq, hz⟩
  have HZ21 : Hid (Hz w (fun _ => False) [jr kp dk d3 k2, jr jp dj d1 j1] w21) := hz
  clear hz HZ20
  go_wp2_with fail
  refine (said_val T hT 11 hq _).mono ?_
  rintro e w22 ⟨rfl, b⟩
  have HZ22 : Hid (Hz w (fun _ => False) [jr kp dk d3 k2, jr jp dj d1 j1] w22) := HZ21.out.below b
  clear b HZ21 hT hq
  go_wp2_with (first
    | (go_at_call 39; refine (promised_hz HZ22.out 1 rfl).mono ?_; rintro e w23 ⟨hx, hwy⟩; have hx2 : e = .returned (.int .i64 1) := hx; subst hx2; have hwz := hwy.symm; subst hwz; clear hwy)
    | (go_at_call 37; refine (log_hz HZ22.out 0 rfl k2_ok).mono ?_; rintro e w24 ⟨⟨a, c, g, hx, hC⟩, b⟩; have hx2 : e = .returned (.agg #[.int .i64 1, .slice a 1 c]) := hx; subst hx2; have HZ24 : Hid (Hz w (fun _ => False) [jr kp dk d3 k2, jr jp dj d1 j1] w24) := HZ22.out.below b; clear b hC))
  go_ret
  exact ⟨rfl, hz_bel HZ24.out⟩

end Go.Proofs.YtfmhmokbbkliaaaGreat.Jrn
