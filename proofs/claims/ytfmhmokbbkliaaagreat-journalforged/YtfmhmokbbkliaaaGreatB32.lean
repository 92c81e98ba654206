/- Part 32 of the proof: JrnA2, JrnB0. -/
import Derived.Test.YtfmhmokbbkliaaaGreatB20
import Derived.Test.YtfmhmokbbkliaaaGreatB23
import Derived.Test.YtfmhmokbbkliaaaGreatB28
import Derived.Test.YtfmhmokbbkliaaaGreatB31

/- The contracts of tabulariumref15.number, told and of tabulariumref14.Entries, Same. -/
namespace Go.Proofs.YtfmhmokbbkliaaaGreat.Jrn
open Go.RowKit Go.Proofs.YtfmhmokbbkliaaaGreat Go.Proofs.YtfmhmokbbkliaaaGreat.Wir Go.Proofs.YtfmhmokbbkliaaaGreat.Lgg
open Go.Proofs.YtfmhmokbbkliaaaGreat.Smm (bytes_ne)
set_option linter.unusedVariables false

set_option maxRecDepth 100000 in
set_option maxHeartbeats 2000000 in
theorem refEntries_val {O O2 : Nat → Prop} {w : World} {a a' : Option Addr} {xs ys : List En} (h1 : Lie enC O w a xs) (h2 : Lie enC O2 w a' ys) (n m c c' : Nat) (hn : xs.length = n) (hm : ys.length = m) (v : Bool) (hv : v = true ↔ xs = ys) :
    Calls Tryz.prog 56 #[.slice a n c, .slice a' m c'] w fun e w' => e = .returned (.bool v) ∧ Below w.heap.size w w' := by
  have hl1 := h1.lid
  rw [hn] at hl1
  unfold maxLen at hl1
  have H1 : Hid (Lie enC O w a xs) := h1
  have H2 : Hid (Lie enC O2 w a' ys) := h2
  have HN : Hid (xs.length = n) := hn
  have HM : Hid (ys.length = m) := hm
  have HV : Hid (v = true ↔ xs = ys) := hv
  clear h1 h2 hn hm hv
  by_cases hnm : n = m
  · subst hnm
    go_enter Tryz.func56, Tryz.ntmps56
    go_wp2
    go_loopw [5] (fun u wr => ∃ i d : Nat, i ≤ n ∧ u = .int .i64 i ∧ wr = w.drewN d ∧ ∀ j (h1 : j < xs.length) (h2 : j < ys.length), j < i → xs[j] = ys[j]) (fun u _ => n - (intOf u).toNat)
    case atStart => exact ⟨0, 0, by omega, rfl, rfl, fun j _ _ h => by omega⟩
    case round =>
      obtain ⟨i, d, hi, rfl, hd, hall⟩ := hrel
      by_cases hlt : i < n
      · have e1 : i < xs.length := by rw [HN.out]; exact hlt
        have e2 : i < ys.length := by rw [HM.out]; exact hlt
        have hb : Below w.heap.size w wr := by rw [hd]; exact bel_dr _ _
        obtain ⟨b, off, rfl, hc⟩ := (H1.out.below hb).at wideN e1
        obtain ⟨b', off', rfl, hc'⟩ := (H2.out.below hb).at wideN e2
        have hno : ¬ xs[i] = ys[i] → v = false := fun hno => by
          cases v with
          | false => rfl
          | true => exact absurd (by simp only [HV.out.1 rfl]) hno
        have HNX : Hid (xs[i] = ys[i] → ∀ j (h1 : j < xs.length) (h2 : j < ys.length), j < i + 1 → xs[j] = ys[j]) := fun hk j h1 h2 hji => by
          rcases Nat.lt_or_ge j i with h | h
          · exact hall j h1 h2 h
          · obtain rfl : j = i := by omega
            exact hk
        have HA : Hid (∀ j (h1 : j < xs.length) (h2 : j < ys.length), j < i → xs[j] = ys[j]) := hall
        generalize xs[i] = x at *
        generalize ys[i] = y at *
        obtain ⟨tx, dx⟩ := x
        obtain ⟨ty, dy⟩ := y
        have q0 : wr.cell? ⟨b, off + i * 2, none⟩ = some (.int .i64 tx) := hc 0 _ rfl
        have q1 : wr.cell? ⟨b, off + i * 2 + 1, none⟩ = some (.string dx) := hc 1 _ rfl
        have r0 : wr.cell? ⟨b', off' + i * 2, none⟩ = some (.int .i64 ty) := hc' 0 _ rfl
        have r1 : wr.cell? ⟨b', off' + i * 2 + 1, none⟩ = some (.string dy) := hc' 1 _ rfl
        have HD : Hid (wr = w.drewN d) := hd
        clear hd hc hc' hb H1 H2 hall
        by_cases hx : tx = ty
        · by_cases hs : dx = dy
          · have HK : Hid (∀ j (h1 : j < xs.length) (h2 : j < ys.length), j < i + 1 → xs[j] = ys[j]) := HNX.out (by rw [hx, hs])
            subst hx hs
            clear hno HNX
            go_wp2
            go_quiet (fail)
            go_wp2
            go_roundw
            case rel => exact ⟨i + 1, d + nq, by omega, by go_num, by rw [HD.out, World.drewN_drewN], HK.out⟩
            case measure => simp [intOf]; omega
          · have hvf := hno (fun e => by injection e with _ e2; exact hs e2)
            have hbe := bytes_ne hs
            subst hx hvf
            clear hno HNX HV hs
            go_wp2
            go_quiet (fail)
            go_wp2
            go_ret
            exact ⟨rfl, by rw [HD.out, World.drewN_drewN]; exact bel_dr _ _⟩
        · have hvf := hno (fun e => by injection e with e2 _; exact hx e2)
          subst hvf
          clear hno HNX HV
          go_wp2
          go_quiet (fail)
          go_wp2
          go_ret
          exact ⟨rfl, by rw [HD.out, World.drewN_drewN]; exact bel_dr _ _⟩
      · have hvt : v = true := HV.out.2 (List.ext_getElem (by rw [HN.out, HM.out]) (fun j h1 h2 => hall j h1 h2 (by have := HN.out; omega)))
        subst hvt
        have HD : Hid (wr = w.drewN d) := hd
        clear hd hall HV
        go_wp2
        go_ret
        exact ⟨rfl, by rw [HD.out]; exact bel_dr _ _⟩
  · have hvf : v = false := by
      cases v with
      | false => rfl
      | true => exact absurd (by rw [← HN.out, ← HM.out, HV.out.1 rfl]) hnm
    subst hvf
    clear HV
    go_enter Tryz.func56, Tryz.ntmps56
    go_wp2
    go_ret
    exact ⟨rfl, Below.refl _ _⟩


set_option maxRecDepth 100000 in
set_option maxHeartbeats 1000000 in
theorem refSame_val {O O2 : Nat → Prop} {w : World} {a a' : Option Addr} {xs ys : List En} (h1 : Lie enC O w a xs) (h2 : Lie enC O2 w a' ys) (n m c c' : Nat) (hn : xs.length = n) (hm : ys.length = m) (e1 e2 : Int) (v : Bool) (hv : v = true ↔ (⟨e1, xs⟩ : Lg) = ⟨e2, ys⟩) :
    Calls Tryz.prog 16 #[.agg #[.int .i64 e1, .slice a n c], .agg #[.int .i64 e2, .slice a' m c']] w fun e w' => e = .returned (.bool v) ∧ Below w.heap.size w w' := by
  have B0 : Hid (∀ o p, Below w.heap.size w ((w.alloc o).alloc p)) := fun o p => bel_tr (bel_al _ _) (bel_al _ _)
  by_cases he : e1 = e2
  · subst he
    have hv2 : v = true ↔ xs = ys := by
      rw [hv]
      constructor
      · intro h; injection h
      · intro h; rw [h]
    have HE : Hid (∀ W, Below w.heap.size w W → Calls Tryz.prog 56 #[.slice a n c, .slice a' m c'] W fun e w' => e = .returned (.bool v) ∧ Below W.heap.size W w') := fun W hb => refEntries_val (h1.below hb) (h2.below hb) n m c c' hn hm v hv2
    clear h1 h2 hn hm hv hv2
    go_enter Tryz.func16, Tryz.ntmps16
    go_wp2_with fail
    refine (HE.out _ (bel_tr (bel_al _ _) (bel_al _ _))).mono ?_
    rintro e w1 ⟨rfl, b1⟩
    have B1 : Hid (Below w.heap.size w w1) := bel_tr (B0.out _ _) b1
    clear b1 B0
    go_wp2
    go_ret
    exact ⟨rfl, B1.out⟩
  · have hvf : v = false := by
      cases v with
      | false => rfl
      | true => exact absurd (by have := hv.1 rfl; injection this) he
    subst hvf
    have hb : (e1 == e2) = false := beq_eq_false_iff_ne.2 he
    clear h1 h2 hn hm hv
    go_enter Tryz.func16, Tryz.ntmps16
    go_wp2
    go_ret
    exact ⟨rfl, B0.out _ _⟩

theorem numP_of {b d : ByteArray} {n : Int} {ok : Bool} (ht : Tk b n d ok) : numP b = if ok = true ∧ d.size = 0 then some n else none := by
  have hv := ht.v
  unfold numP
  cases h : takeZ 0 0 b.data.toList with
  | none =>
    rw [refTakeV_no h] at hv
    simp at hv
    obtain ⟨_, _, rfl⟩ := hv
    simp
  | some p =>
    rw [refTakeV_yes (z := p.1) (k := p.2) h] at hv
    simp at hv
    obtain ⟨rfl, rfl, rfl⟩ := hv
    simp
set_option maxRecDepth 100000 in
theorem refNumber_val (b : ByteArray) (hb : b.size ≤ maxLen) : ∃ (n : Int) (v : Bool), (numP b = if v = true then some n else none) ∧ ∀ w, Calls Tryz.prog 53 #[.string b] w fun e w' => e = .returned (.tuple #[.int .i64 n, .bool v]) ∧ Below w.heap.size w w' := by
  obtain ⟨n, d, ok, ht⟩ := tk_ex b
  have hT : ∀ W, Calls Tryz.prog 99 #[.string b] W fun e w' => e = .returned (.tuple #[.int .i64 n, .string d, .bool ok]) ∧ Below W.heap.size W w' := fun W => refTake_val b _ W hb ht.v
  refine ⟨n, ok && decide (d.size = 0), by rw [numP_of ht]; simp, fun w => ?_⟩
  have HT : Hid (∀ W, Calls Tryz.prog 99 #[.string b] W fun e w' => e = .returned (.tuple #[.int .i64 n, .string d, .bool ok]) ∧ Below W.heap.size W w') := hT
  clear hT ht hb
  obtain ⟨z, hz⟩ : ∃ z, decide (d.size = 0) = z := ⟨_, rfl⟩
  rw [hz]
  have hie := is_empty hz
  have hie2 := Wir.empty_iff d
  rw [hz] at hie2
  clear hz
  cases ok with
  | false =>
    go_enter Tryz.func53, Tryz.ntmps53
    go_wp2_with fail
    refine (HT.out _).mono ?_
    rintro e w1 ⟨rfl, b1⟩
    go_wp2
    go_ret2
    exact ⟨rfl, b1⟩
  | true =>
    go_enter Tryz.func53, Tryz.ntmps53
    go_wp2_with fail
    refine (HT.out _).mono ?_
    rintro e w1 ⟨rfl, b1⟩
    go_wp2
    go_ret2
    exact ⟨rfl, b1⟩

set_option maxRecDepth 100000 in
set_option maxHeartbeats 2000000 in
theorem ref15Told_val {O : Nat → Prop} {w : World} {a : Option Addr} {es : List En} (hl : Lie enC O w a es) (ep : Int) (n c : Nat) (hn : es.length = n) (hR : RtL ⟨ep, es⟩) (J : ByteArray) (hJ : ansT 0 (piecesL (encL ⟨ep, es⟩)) = J) :
    Calls Tryz.prog 55 #[.agg #[.int .i64 ep, .slice a n c]] w fun e w' => e = .returned (.string J) ∧ Below w.heap.size w w' := by
  have hJs : (encL ⟨ep, es⟩).size ≤ 200000 := enc_bound hR
  have hps := (pieces_size (encL ⟨ep, es⟩).size _ (Nat.le_refl _)).1
  obtain ⟨E, hE⟩ : ∃ E, encL ⟨ep, es⟩ = E := ⟨_, rfl⟩
  have HB : Hid (∀ W, Below w.heap.size w W → Calls Tryz.prog 101 #[.agg #[.int .i64 ep, .slice a n c]] W fun e w' => e = .returned (.tuple #[.string E, .bool true]) ∧ Below W.heap.size W w') := fun W hb => refBytes_yes (hl.below hb) ep n c hn hR E hE
  rw [hE] at hJ hJs hps
  obtain ⟨X, hX⟩ : ∃ X, numT 0 = X := ⟨_, rfl⟩
  have HN : Hid (∀ W, Calls Tryz.prog 47 #[.int .i64 0] W fun e w' => e = .returned (.string X) ∧ Below W.heap.size W w') := fun W => by rw [← hX]; exact ref15Num_val 0 W (by omega) (by omega)
  have hXs : X.size ≤ 10 := by rw [← hX]; exact numT_size (by omega) (by omega)
  unfold ansT at hJ
  rw [hX] at hJ
  obtain ⟨ps, hps2⟩ : ∃ ps, piecesL E = ps := ⟨_, rfl⟩
  rw [hps2] at hJ hps
  have HJ : Hid (∀ (W : World) (a7 : Option Addr) (k7 c7 : Nat) (O7 : Nat → Prop) (g7 : Option Nat), Cel O7 W 1 (.slice a7 k7 c7) k7 (rowC strC (X :: ps)) g7 → Calls Tryz.prog 48 #[.slice a7 k7 c7] W fun e w' => e = .returned (.string J) ∧ Below W.heap.size W w') := fun W a7 k7 c7 O7 g7 hC => by
    obtain ⟨h1, b, h2⟩ := strs_of_cel hC (fun s hs => by
      rcases List.mem_cons.1 hs with rfl | hs
      · unfold maxLen; omega
      · have := hps s hs; unfold maxLen; omega)
    exact refJoined_val h2 k7 c7 h1 J hJ
  have HP : Hid (piecesL E = ps) := hps2
  have HES : Hid (E.size ≤ 200000) := hJs
  obtain ⟨ti, hi1, hi2, hi3, hi4⟩ := info_s
  clear hl hn hR hJ hJs hps hE hX hXs hps2
  go_enter Tryz.func55, Tryz.ntmps55
  go_wp2_with fail
  refine (HB.out _ (bel_al _ _)).mono ?_
  rintro e w1 ⟨rfl, b1⟩
  have B1 : Hid (Below w.heap.size w w1) := bel_tr (bel_al _ _) b1
  clear b1 HB
  go_wp2_with fail
  refine (HN.out _).mono ?_
  rintro e w2 ⟨rfl, b2⟩
  have B2 : Hid (Below w.heap.size w w2) := bel_tr B1.out b2
  clear b2 HN B1
  have CW : Hid (Cel (fun q => w.heap.size ≤ q) (w2.alloc (.cells #[.string X] 9)) 1 (.slice (some ⟨w2.heap.size, 0, none⟩) 1 1) 1 (rowC strC [X]) (some w2.heap.size)) := cel_new w2 _ B2.out.size [.string X] _ 1 1 rfl (by unfold maxLen; omega)
  have B3 : Hid (Below w.heap.size w (w2.alloc (.cells #[.string X] 9))) := bel_tr B2.out (bel_al _ _)
  go_wp2_with fail
  go_loopw [3, 5] (fun v u wr => ∃ (r : ByteArray) (acc : List ByteArray) (k : Nat) (a' : Option Addr) (c' : Nat) (g : Option Nat), v = .string r ∧ u = .slice a' k c' ∧ acc.length = k ∧ acc ++ piecesL r = X :: ps ∧ k + r.size ≤ 200001 ∧ Cel (fun q => w.heap.size ≤ q) wr 1 (.slice a' k c') k (rowC strC acc) g ∧ Below w.heap.size w wr) (fun v _ _ => match v with | .string r => r.size | _ => 0)
  case atStart => exact ⟨E, [X], 1, _, 1, _, rfl, rfl, rfl, by rw [HP.out]; rfl, by have := HES.out; omega, CW.out, B3.out⟩
  case round =>
    obtain ⟨r, acc, k, a', c', g, rfl, rfl, hk, he, hs, hC, hb⟩ := hrel
    have HK : Hid (acc.length = k) := hk
    have HE : Hid (acc ++ piecesL r = X :: ps) := he
    have HC : Hid (Cel (fun q => w.heap.size ≤ q) wr 1 (.slice a' k c') k (rowC strC acc) g) := hC
    have HBB : Hid (Below w.heap.size w wr) := hb
    clear hk he hC hb B2 B3 CW HP HES
    by_cases h0 : r.size = 0
    · have hgd : decide (0 < r.size) = false := decide_eq_false (by omega)
      have hgd2 : decide ((0 : Int) < (r.size : Int)) = false := decide_eq_false (by omega)
      have HF : Hid (acc = X :: ps) := by
        have := HE.out
        rw [pieces_nil h0, List.append_nil] at this
        exact this
      have HC2 : Hid (Cel (fun q => w.heap.size ≤ q) wr 1 (.slice a' k c') k (rowC strC (X :: ps)) g) := by rw [← HF.out]; exact HC.out
      clear HC HE HF
      go_wp2_with (go_at_call 48; refine (HJ.out _ _ _ _ _ _ HC2.out).mono ?_; rintro e w8 ⟨rfl, b8⟩)
      go_ret
      exact ⟨rfl, bel_tr HBB.out b8⟩
    · have hpc := pieces_cons h0
      have hgd : decide (0 < r.size) = true := decide_eq_true (by omega)
      have hgd2 : decide ((0 : Int) < (r.size : Int)) = true := decide_eq_true (by omega)
      obtain ⟨m, hm⟩ : ∃ m, min r.size 4000 = m := ⟨_, rfl⟩
      have hm1 : 1 ≤ m ∧ m ≤ r.size := by omega
      have hmi : min (r.size : Int) 4000 = (m : Int) := by omega
      rw [hm] at hpc
      obtain ⟨X1, hX1⟩ : ∃ X1, r.extract 0 m = X1 := ⟨_, rfl⟩
      obtain ⟨Y, hY⟩ : ∃ Y, r.extract m r.size = Y := ⟨_, rfl⟩
      have hys : Y.size + m = r.size := by rw [← hY, ByteArray.size_extract]; omega
      rw [hX1, hY] at hpc
      have HNN : Hid ((acc ++ [X1]) ++ piecesL Y = X :: ps) := by
        have := HE.out
        rw [hpc] at this
        rw [List.append_assoc]
        exact this
      have HS : Hid (k + 1 + Y.size ≤ 200001 ∧ Y.size < r.size) := ⟨by omega, by omega⟩
      have hrs : r.size ≤ 200001 := by omega
      have HKS : Hid (k ≤ 200001) := (by show k ≤ _; omega)
      clear hpc h0 hm hys hs
      go_wp2_with (at_builtin; refine wpList_append_cel _ rfl _ _ 76 76 rfl 9 ti _ 1 16 Tryz.underlying76 hi1 hi2 hi3 hi4 rfl (O := fun q => w.heap.size ≤ q) (.slice a' k c') k _ g rfl (HC.out.below (bel_al _ _)) _ 1 [.string X1] rfl (src_str wr X1) (by have := HKS.out; unfold maxLen; omega) (by have := HKS.out; omega) ?_; intro a7 c7 w7 g7 hC7 hS7 hg7; have H7 : Hid (Cel (fun q => w.heap.size ≤ q) w7 1 (.slice a7 (k + 1) c7) (k + 1) (rowC strC acc ++ [.string X1]) g7 ∧ Below w.heap.size w w7) := cel_app (bel_tr HBB.out (bel_al _ _)) (HC.out.below (bel_al _ _)) hC7 hS7; clear hC7 hS7 hg7)
      go_roundw
      case rel => exact ⟨Y, acc ++ [X1], k + 1, a7, c7, g7, rfl, rfl, by simp [HK.out], HNN.out, HS.out.1, by rw [rowC_app, rowC_one]; exact H7.out.1, H7.out.2⟩
      case measure => exact HS.out.2

end Go.Proofs.YtfmhmokbbkliaaaGreat.Jrn

/- What the reference's read has in memory: a request in a box, a result in a box. -/
namespace Go.Proofs.YtfmhmokbbkliaaaGreat.Jrn
open Go.RowKit Go.Proofs.YtfmhmokbbkliaaaGreat Go.Proofs.YtfmhmokbbkliaaaGreat.Wir Go.Proofs.YtfmhmokbbkliaaaGreat.Lgg
set_option linter.unusedVariables false

/-- A request's cells. -/
structure Qb (W : World) (b : Nat) (k : ByteArray) (ep tx : Int) (s : Value) : Prop where
  c0 : W.cell? ⟨b, 0, none⟩ = some (.string k)
  c1 : W.cell? ⟨b, 1, none⟩ = some (.int .i64 ep)
  c2 : W.cell? ⟨b, 2, none⟩ = some (.int .i64 tx)
  c3 : W.cell? ⟨b, 3, none⟩ = some s
  fr : ∀ j, W.frozen? ⟨b, j, none⟩ = false
  lt : b < W.heap.size
section
variable {W W' : World} {b : Nat} {k : ByteArray} {ep tx : Int} {s : Value}
theorem Qb.stay {O : Nat → Prop} (h : Qb W b k ep tx s) (hs : Stay O W W') (hO : ¬ O b) : Qb W' b k ep tx s := by
  have e := hs.block b h.lt hO
  exact ⟨(World.cell?_of_block (a := ⟨b, 0, none⟩) e).trans h.c0, (World.cell?_of_block (a := ⟨b, 1, none⟩) e).trans h.c1, (World.cell?_of_block (a := ⟨b, 2, none⟩) e).trans h.c2, (World.cell?_of_block (a := ⟨b, 3, none⟩) e).trans h.c3, fun j => (World.frozen?_of_block (a := ⟨b, j, none⟩) e).trans (h.fr j), Nat.lt_of_lt_of_le h.lt hs.size⟩
theorem Qb.below (h : Qb W b k ep tx s) (hb : Below W.heap.size W W') : Qb W' b k ep tx s := h.stay (O := fun _ => False) (Stay.of_below hb) id
theorem Qb.new (W : World) (k : ByteArray) (ep tx : Int) (s : Value) (T : TypeId) : Qb (W.alloc (.cells #[.string k, .int .i64 ep, .int .i64 tx, s] T)) W.heap.size k ep tx s :=
  ⟨World.cell?_alloc_new W _ _ 0, World.cell?_alloc_new W _ _ 1, World.cell?_alloc_new W _ _ 2, World.cell?_alloc_new W _ _ 3, fun j => World.frozen?_alloc_new W _ _ j, by simp⟩
theorem Qb.putS (h : Qb W b k ep tx s) (s' : Value) : Qb (W.setCell ⟨b, 3, none⟩ s') b k ep tx s' :=
  ⟨cell_set (by omega) h.c0, cell_set (by omega) h.c1, cell_set (by omega) h.c2, World.cell?_setCell_same _ _ _ h.c3, fun j => by rw [World.frozen?_setCell]; exact h.fr j, by rw [size_set]; exact h.lt⟩
theorem Qb.putT (h : Qb W b k ep tx s) (tx' : Int) : Qb (W.setCell ⟨b, 2, none⟩ (.int .i64 tx')) b k ep tx' s :=
  ⟨cell_set (by omega) h.c0, cell_set (by omega) h.c1, World.cell?_setCell_same _ _ _ h.c2, cell_set (by omega) h.c3, fun j => by rw [World.frozen?_setCell]; exact h.fr j, by rw [size_set]; exact h.lt⟩
end
/-- An entry more behind the request's. -/
theorem qb_app {w wr W w5 : World} {qb : Nat} {k : ByteArray} {ep tx : Int} {a a5 : Option Addr} {n c c5 : Nat} {es : List En} {g g5 : Option Nat} {d : ByteArray} {I : Int} (hw : w.heap.size = qb + 1) (hB : Qb wr qb k ep tx (.slice a n c)) (hC : Cel (fun z => qb < z) wr 2 (.slice a n c) n (rowC enC es) g) (hs : Stay (fun z => z = qb) w wr) (hW : Below wr.heap.size wr W) (hC5 : Cel (Grow (fun z => qb < z) W w5) w5 2 (.slice a5 (n + 1) c5) (n + 1) (rowC enC es ++ [.int .i64 I, .string d]) g5) (hS5 : Stay (fun z => g = some z) W w5) :
    Qb w5 qb k ep tx (.slice a n c) ∧ Cel (fun z => qb < z) w5 2 (.slice a5 (n + 1) c5) (n + 1) (rowC enC (es ++ [⟨I, d⟩])) g5 ∧ Stay (fun z => z = qb) w w5 := by
  have hx : ∀ z, g = some z → qb < z := fun z hz => by rw [hz] at hC; exact hC.lt.2
  have h1 : Stay (fun z => z = qb) w W := hs.then_same (Stay.of_below hW)
  have hz := hW.size
  have hl := hB.lt
  refine ⟨(hB.below hW).stay hS5 (fun e => by have := hx _ e; omega), ?_, ⟨hS5.os.trans h1.os, hS5.tape.trans h1.tape, hS5.output.trans h1.output, Nat.le_trans h1.size hS5.size, fun q hq hne => ?_⟩⟩
  · rw [rowC_app, rowC_one]
    exact hC5.stay (Nat.le_refl _) (fun _ _ => rfl) (fun z hq => hq.elim id (fun e => by have := e.1; omega))
  · rw [hS5.block q (Nat.lt_of_lt_of_le hq h1.size) (fun e => by have := hx q e; omega)]
    exact h1.block q hq hne

/-- A request that was read, and its entries, in new memory. -/
def RqT (r : Rq) (k : ByteArray) (ep tx : Int) (es : List En) : Prop := match r with
  | .prom e => k = pT ∧ ep = e ∧ es = []
  | .acc e l => k = aT ∧ ep = e ∧ es = l
  | .add e x => k = wT ∧ ep = e ∧ tx = x.tx ∧ es = [x]
structure RdO (base : Nat) (o : Option Rq) (e : Ending) (w' : World) : Prop where
  ex : ∃ (k : ByteArray) (ep tx : Int) (a : Option Addr) (n c : Nat) (g : Option Nat) (es : List En), e = .returned (.tuple #[.agg #[.string k, .int .i64 ep, .int .i64 tx, .slice a n c], .bool o.isSome]) ∧ es.length = n ∧ Cel (fun q => base ≤ q) w' 2 (.slice a n c) n (rowC enC es) g ∧ ∀ r, o = some r → RqT r k ep tx es

/-- A result that lies in a box of the call's own. -/
theorem res_box4 (w : World) (T : TypeId) (RB : Nat) (hRB : w.heap.size = RB) :
    (∀ W, Below (w.alloc (.cells #[.string ⟨#[]⟩, .int .i64 0, .int .i64 0, .slice none 0 0] T)).heap.size (w.alloc (.cells #[.string ⟨#[]⟩, .int .i64 0, .int .i64 0, .slice none 0 0] T)) W → Qb W RB ⟨#[]⟩ 0 0 (.slice none 0 0)) ∧
    ∀ (W : World) (k : ByteArray) (ep tx : Int) (a : Option Addr) (n c : Nat) (es : List En) (g : Option Nat), es.length = n → Below (w.alloc (.cells #[.string ⟨#[]⟩, .int .i64 0, .int .i64 0, .slice none 0 0] T)).heap.size (w.alloc (.cells #[.string ⟨#[]⟩, .int .i64 0, .int .i64 0, .slice none 0 0] T)) W → Cel (fun q => RB < q) W 2 (.slice a n c) n (rowC enC es) g →
      Qb ((((W.setCell ⟨RB, 0, none⟩ (.string k)).setCell ⟨RB, 1, none⟩ (.int .i64 ep)).setCell ⟨RB, 2, none⟩ (.int .i64 tx)).setCell ⟨RB, 3, none⟩ (.slice a n c)) RB k ep tx (.slice a n c) ∧
      Cel (fun q => w.heap.size ≤ q) ((((W.setCell ⟨RB, 0, none⟩ (.string k)).setCell ⟨RB, 1, none⟩ (.int .i64 ep)).setCell ⟨RB, 2, none⟩ (.int .i64 tx)).setCell ⟨RB, 3, none⟩ (.slice a n c)) 2 (.slice a n c) n (rowC enC es) g ∧
      Below w.heap.size w ((((W.setCell ⟨RB, 0, none⟩ (.string k)).setCell ⟨RB, 1, none⟩ (.int .i64 ep)).setCell ⟨RB, 2, none⟩ (.int .i64 tx)).setCell ⟨RB, 3, none⟩ (.slice a n c)) := by
  subst hRB
  have q0 := Qb.new w ⟨#[]⟩ 0 0 (.slice none 0 0) T
  have B1 : Below w.heap.size w (w.alloc (.cells #[.string ⟨#[]⟩, .int .i64 0, .int .i64 0, .slice none 0 0] T)) := bel_al _ _
  refine ⟨fun W hb => q0.below hb, fun W k ep tx a n c es g hn hb hC => ?_⟩
  have q1 := q0.below hb
  have hs : Stay (fun q => q = w.heap.size) W ((((W.setCell ⟨w.heap.size, 0, none⟩ (.string k)).setCell ⟨w.heap.size, 1, none⟩ (.int .i64 ep)).setCell ⟨w.heap.size, 2, none⟩ (.int .i64 tx)).setCell ⟨w.heap.size, 3, none⟩ (.slice a n c)) := (((stay_set W w.heap.size 0 _).then_same (stay_set _ w.heap.size 1 _)).then_same (stay_set _ w.heap.size 2 _)).then_same (stay_set _ w.heap.size 3 _)
  have hb2 := bel_tr B1 hb
  refine ⟨⟨cell_set (by omega) (cell_set (by omega) (cell_set (by omega) (World.cell?_setCell_same _ _ _ q1.c0))), cell_set (by omega) (cell_set (by omega) (World.cell?_setCell_same _ _ _ (cell_set (by omega) q1.c1))), cell_set (by omega) (World.cell?_setCell_same _ _ _ (cell_set (by omega) (cell_set (by omega) q1.c2))), World.cell?_setCell_same _ _ _ (cell_set (by omega) (cell_set (by omega) (cell_set (by omega) q1.c3))), fun j => by rw [World.frozen?_setCell, World.frozen?_setCell, World.frozen?_setCell, World.frozen?_setCell]; exact q1.fr j, by rw [size_set, size_set, size_set, size_set]; exact q1.lt⟩, ?_, hb2.trans (hs.below hb2.size (fun q hq => by omega))⟩
  exact hC.stay hs.size (fun q hq => hs.block q (by rw [hq] at hC; exact hC.lt.1) (fun e => by rw [hq] at hC; have h9 : w.heap.size < q := hC.lt.2; omega)) (fun q hq => by have h9 : w.heap.size < q := hq; omega)
theorem lie_cel {O : Nat → Prop} {w : World} {a : Option Addr} {n c : Nat} {es : List En} {g : Option Nat} (h : Cel O w 2 (.slice a n c) n (rowC enC es) g) (hn : es.length = n) : Lie enC O w a es := by
  subst hn; exact Lie.of_cel wideN h
theorem kind_ne {k : ByteArray} {x : UInt8} (h : k ≠ ⟨#[x]⟩) : (k.toList == [x]) = false := by
  have h1 := Go.Proofs.YtfmhmokbbkliaaaGreat.Smm.bytes_ne h
  have h2 : (⟨#[x]⟩ : ByteArray).toList = [x] := by rw [Lib.toList_data]
  rw [h2] at h1; exact h1
end Go.Proofs.YtfmhmokbbkliaaaGreat.Jrn
