/- WireJoins: for every two lists of strings: the statement's function returns true; nothing that was there is changed. No condition. -/
import Derived.Test.YtoppdclmahelmabWireOpen0
import Derived.Test.YtoppdclmahelmabWireCutsM
import Derived.Test.YtoppdclmahelmabWireSplit
import Derived.Deep.RegionWith
import Derived.Lib.QuietBelow
namespace Go.Proofs.Ytoppdclmahelmab.wireJoins
open Go.ChangeShapes Go.WideShapes Go.ChangeAt Go.RowKit
open Go.ChangeMaps (open_string shut_string)
set_option linter.unusedVariables false

theorem own : ownKnob Try.prog.godebug = none := by kernel_rfl

theorem join_val (a : Option Addr) (b off cap : Nat) (ss : List ByteArray) (V : Value) (w : World) (hS : Strs w a b off ss) (hV : joinV ss = V) :
    Calls Try.prog 11 #[.slice a ss.length cap] w fun e w' => e = .returned V ∧ Below w.heap.size w w' := by
  subst hV; exact join_any a b off cap ss w hS

theorem join_len (a : Option Addr) (b off cap : Nat) (ss : List ByteArray) (n : Nat) (V : Value) (w : World) (hn : ss.length = n) (hS : Strs w a b off ss) (hV : joinV ss = V) :
    Calls Try.prog 11 #[.slice a n cap] w fun e w' => e = .returned V ∧ Below w.heap.size w w' := by
  subst hn; exact join_val a b off cap ss V w hS hV

theorem textsB_append (l m : List ByteArray) : textsB (l ++ m) = textsB l ++ textsB m := by simp [textsB]

theorem joinOk_append (l m : List ByteArray) (hl : l.length ≤ 20) (hm : m.length ≤ 20) : joinOk (l ++ m) = (joinOk l && joinOk m) := by
  rw [Bool.eq_iff_iff, Bool.and_eq_true, joinOk_iff, joinOk_iff, joinOk_iff]
  simp only [List.length_append, List.mem_append]
  constructor
  · rintro ⟨_, h⟩
    exact ⟨⟨by omega, fun s hs => h s (.inl hs)⟩, by omega, fun s hs => h s (.inr hs)⟩
  · rintro ⟨⟨_, h1⟩, _, h2⟩
    exact ⟨by omega, fun s hs => hs.elim (h1 s) (h2 s)⟩

theorem numB_one (n : Nat) (h : n ≤ 20) : (numB n).length = 1 := by
  have e : Lib.zigzag (n : Int) = 2 * n := by unfold Lib.zigzag; rw [if_pos (by omega)]; omega
  unfold numB
  rw [e, Lib.uvarint_small (by omega)]; rfl

theorem join_tail (l : List ByteArray) (h : l.length ≤ 20) : (joinB l).drop 1 = textsB l := by
  unfold joinB
  rw [← numB_one l.length h, List.drop_left]

/-- Two lists together: the bytes. -/
theorem join_two (l m : List ByteArray) (hl : l.length ≤ 20) (hm : m.length ≤ 20) : (⟨(numB ((l.length : Int) + (m.length : Int))).toArray⟩ : ByteArray) ++ (⟨(joinB l).toArray⟩ : ByteArray).extract 1 (⟨(joinB l).toArray⟩ : ByteArray).size ++ (⟨(joinB m).toArray⟩ : ByteArray).extract 1 (⟨(joinB m).toArray⟩ : ByteArray).size = ⟨(joinB (l ++ m)).toArray⟩ := by
  refine bytes_inj ?_
  rw [app_list, app_list, ext_list, ext_list]
  show numB _ ++ (joinB l).drop 1 ++ (joinB m).drop 1 = joinB (l ++ m)
  rw [join_tail l hl, join_tail m hm, joinB, textsB_append, List.length_append, List.append_assoc]
  congr 2

theorem join_sz (l : List ByteArray) (h : joinOk l = true) : 1 ≤ (⟨(joinB l).toArray⟩ : ByteArray).size ∧ (⟨(joinB l).toArray⟩ : ByteArray).size ≤ 5000000 := by
  obtain ⟨g1, g2⟩ := (joinOk_iff l).1 h
  have a := textsB_len l g2
  have b := numB_len (n := (l.length : Int)) (by omega) (by omega)
  have c := numB_pos (l.length : Int)
  rw [mk_size, joinB, List.length_append]
  omega

theorem num_is (n : Int) (X : ByteArray) (w : World) (h0 : -9223372036854775808 ≤ n) (h1 : n ≤ 9223372036854775807) (h : ⟨(numB n).toArray⟩ = X) :
    Calls Try.prog 7 #[.int .i64 n] w fun e w' => e = .returned (.string X) ∧ Below w.heap.size w w' := by
  subst h; exact num_any n w h0 h1

theorem app_below {w w3 w4 : World} (c : Below w.heap.size w w3) (g : w3.grownBy w4 (Value.slice none 0 0).ownBlock) : Below w.heap.size w w4 :=
  c.grown g c.size (by simp [Value.ownBlock])
theorem app_below2 {w w3 w4 w5 : World} {e : TypeId} {v : Value} {n : Nat} {xs : List Value} (c : Below w.heap.size w w3) (g : w3.grownBy w4 (Value.slice none 0 0).ownBlock) (o : w4.ownsRow w3.heap.size e 1 v n xs) (g' : w4.grownBy w5 v.ownBlock) : Below w.heap.size w w5 := by
  have h : Below w.heap.size w w4 := c.grown g c.size (by simp [Value.ownBlock])
  exact h.grown g' h.size (fun k hk => Nat.le_trans c.size (o.lt k hk).1)

theorem strs_take {w : World} {a : Option Addr} {b off : Nat} {ss : List ByteArray} (h : Strs w a b off ss) (k : Nat) : Strs w a b off (ss.take k) := by
  refine ⟨fun hp => h.addr (by rw [List.length_take] at hp; omega), fun j hj => ?_, fun s hs => h.small s (List.mem_of_mem_take hs), by rw [List.length_take]; have := h.len; omega⟩
  rw [List.length_take] at hj
  rw [List.getElem_take]
  exact h.cell j (by omega)

theorem own_strs {w : World} {base : Nat} {v : Value} {ss : List ByteArray} (h : w.ownsRow base 9 1 v ss.length (ss.map Value.string)) (hl : ss.length ≤ 1000) (hx : ∀ x ∈ ss, x.size ≤ maxLen) :
    ∃ a b cap, v = .slice a ss.length cap ∧ Strs w a b 0 ss := by
  rcases h.2 with ⟨rfl, h0⟩ | ⟨g, cap, cur, rfl, hb, _⟩
  · exact ⟨none, 0, 0, by rw [h0], fun hp => by omega, fun j hj => by omega, hx, by unfold maxLen; omega⟩
  · refine ⟨_, g, cap, rfl, fun _ => rfl, fun j hj => ?_, hx, by unfold maxLen; omega⟩
    rw [Nat.zero_add, h.cellAt j (by omega)]
    simp [hj]

set_option maxRecDepth 100000 in
set_option maxHeartbeats 2000000 in
theorem walk_0 (a0 : Option Addr) (b0 off0 cap0 len0 : Nat) (T0 : List ByteArray) (a1 : Option Addr) (b1 off1 cap1 len1 : Nat) (T1 : List ByteArray) (w : World) (S0 : Strs w a0 b0 off0 T0) (S1 : Strs w a1 b1 off1 T1)
    (n0 : (a0 = none → cap0 = 0) ∧ len0 ≤ cap0 ∧ cap0 ≤ maxLen) (n1 : (a1 = none → cap1 = 0) ∧ len1 ≤ cap1 ∧ cap1 ≤ maxLen) (hl0 : len0 ≤ 20) (hT0 : T0.length = len0) (hl1 : len1 ≤ 20) (hT1 : T1.length = len1) :
    Calls Try.prog 5 #[.slice a0 len0 cap0, .slice a1 len1 cap1] w fun e w' => e = .returned (.bool true) ∧ Below w.heap.size w w' := by
  obtain ⟨i0, hi, hz0, hz1, hz2⟩ := info_parts Try.infoStr
  obtain ⟨n0, n0', n0''⟩ := n0
  obtain ⟨n1, n1', n1''⟩ := n1
  unfold maxLen at n0'' n1''
  have N0 : Hid _ := n0
  have N1 : Hid _ := n1
  clear n0 n1
  have HT0 : Hid (T0.length = len0) := hT0
  have HT1 : Hid (T1.length = len1) := hT1
  have HS0 : Hid (Strs w a0 b0 off0 T0) := S0
  have HS1 : Hid (Strs w a1 b1 off1 T1) := S1
  have HLa : Hid (T0.length ≤ 20) := by show (_ : Nat) ≤ _; rw [HT0.out]; omega
  have HLb : Hid (T1.length ≤ 20) := by show (_ : Nat) ≤ _; rw [HT1.out]; omega
  have HSM : Hid (∀ x ∈ T0 ++ T1, x.size ≤ maxLen) := fun x hx => (List.mem_append.1 hx).elim (HS0.out.small x) (HS1.out.small x)
  have HJA : Hid (joinOk (T0 ++ T1) = (joinOk T0 && joinOk T1)) := joinOk_append _ _ HLa.out HLb.out
  clear S0 S1 hT0 hT1
  go_enter Try.func5, Try.ntmps5
  go_wp2_with fail
  refine (examples_any _).mono ?_
  rintro e w1 ⟨rfl, c1⟩
  cases h0 : joinOk T0 with
  | false =>
    have H0 : Hid (joinV T0 = .tuple #[.string ⟨#[]⟩, .int .i64 4]) := joinV_no h0
    have H2 : Hid (joinV (T0 ++ T1) = .tuple #[.string ⟨#[]⟩, .int .i64 4]) := joinV_no (by rw [HJA.out, h0]; rfl)
    have HX1 : Hid (∃ (s : ByteArray) (e : Int), joinV T1 = .tuple #[.string s, .int .i64 e]) := by
      cases h1 : joinOk T1 with
      | true => exact ⟨_, _, joinV_yes h1⟩
      | false => exact ⟨_, _, joinV_no h1⟩
    obtain ⟨s1, e1, hx1⟩ := HX1.out
    have H1 : Hid (joinV T1 = .tuple #[.string s1, .int .i64 e1]) := hx1
    clear h0 hx1 HX1 HJA
    go_wp2_with fail
    refine (join_len a0 b0 off0 cap0 T0 len0 _ _ HT0.out (HS0.out.below c1) H0.out).mono ?_
    rintro e w2 ⟨rfl, c2⟩
    have cc2 := bel_trans c1 c2
    clear c1 c2
    go_wp2_with fail
    refine (join_len a1 b1 off1 cap1 T1 len1 _ _ HT1.out (HS1.out.below cc2) H1.out).mono ?_
    rintro e w3 ⟨rfl, c3⟩
    have cc3 := bel_trans cc2 c3
    clear cc2 c3
    have hsz3 := cc3.size
    go_wp2_with (first
      | (at_builtin; refine wpList_append_strs _ rfl (.const (.slice none 0 0)) (.tmp 34) 23 rfl w3.heap.size 9 i0 Try.underlying23 hi hz0 hz1 hz2 _ 0 [] rfl (World.ownsRow_nil _ _ _ _) a0 b0 off0 cap0 T0 len0 HT0.out rfl (HS0.out.below cc3) N0.out (by omega) (Nat.le_refl _) ?_; intro v4 w4 o4 g4)
      | (at_builtin; refine wpList_append_strs _ rfl (.tmp 35) (.tmp 36) 23 rfl w3.heap.size 9 i0 Try.underlying23 hi hz0 hz1 hz2 _ _ _ rfl o4 a1 b1 off1 cap1 T1 len1 HT1.out rfl (HS1.out.below (app_below cc3 g4)) N1.out (by omega) g4.size ?_; intro v5 w5 o5 g5))
    have cc5 : Below w.heap.size w w5 := app_below2 cc3 g4 o4 g5
    have o6 : w5.ownsRow w3.heap.size 9 1 v5 (T0 ++ T1).length ((T0 ++ T1).map Value.string) := by
      have h := o5
      rw [List.nil_append, ← List.map_append, Nat.zero_add] at h
      rw [List.length_append, HT0.out, HT1.out]
      exact h
    obtain ⟨ag, bg, cg, rfl, Sg⟩ := own_strs o6 (by rw [List.length_append]; have h1 := HLa.out; have h2 := HLb.out; omega) HSM.out
    clear o4 g4 o5 g5 o6 cc3 hsz3
    go_wp2_with fail
    refine (join_len ag bg 0 cg (T0 ++ T1) _ _ _ rfl Sg H2.out).mono ?_
    rintro e w6 ⟨rfl, c6⟩
    have cc6 := bel_trans cc5 c6
    clear cc5 c6 Sg HS0 HS1
    go_wp2
    all_goals go_ret
    all_goals exact ⟨rfl, cc6⟩
  | true =>
    have H0 : Hid (joinV T0 = .tuple #[.string ⟨(joinB T0).toArray⟩, .int .i64 0]) := joinV_yes h0
    cases h1 : joinOk T1 with
    | false =>
      have H1 : Hid (joinV T1 = .tuple #[.string ⟨#[]⟩, .int .i64 4]) := joinV_no h1
      have H2 : Hid (joinV (T0 ++ T1) = .tuple #[.string ⟨#[]⟩, .int .i64 4]) := joinV_no (by rw [HJA.out, h0, h1]; rfl)
      clear h0 h1 HJA
      generalize (⟨(joinB T0).toArray⟩ : ByteArray) = A at *
      go_wp2_with fail
      refine (join_len a0 b0 off0 cap0 T0 len0 _ _ HT0.out (HS0.out.below c1) H0.out).mono ?_
      rintro e w2 ⟨rfl, c2⟩
      have cc2 := bel_trans c1 c2
      clear c1 c2
      go_wp2_with fail
      refine (join_len a1 b1 off1 cap1 T1 len1 _ _ HT1.out (HS1.out.below cc2) H1.out).mono ?_
      rintro e w3 ⟨rfl, c3⟩
      have cc3 := bel_trans cc2 c3
      clear cc2 c3
      have hsz3 := cc3.size
      go_wp2_with (first
        | (at_builtin; refine wpList_append_strs _ rfl (.const (.slice none 0 0)) (.tmp 34) 23 rfl w3.heap.size 9 i0 Try.underlying23 hi hz0 hz1 hz2 _ 0 [] rfl (World.ownsRow_nil _ _ _ _) a0 b0 off0 cap0 T0 len0 HT0.out rfl (HS0.out.below cc3) N0.out (by omega) (Nat.le_refl _) ?_; intro v4 w4 o4 g4)
        | (at_builtin; refine wpList_append_strs _ rfl (.tmp 35) (.tmp 36) 23 rfl w3.heap.size 9 i0 Try.underlying23 hi hz0 hz1 hz2 _ _ _ rfl o4 a1 b1 off1 cap1 T1 len1 HT1.out rfl (HS1.out.below (app_below cc3 g4)) N1.out (by omega) g4.size ?_; intro v5 w5 o5 g5))
      have cc5 : Below w.heap.size w w5 := app_below2 cc3 g4 o4 g5
      have o6 : w5.ownsRow w3.heap.size 9 1 v5 (T0 ++ T1).length ((T0 ++ T1).map Value.string) := by
        have h := o5
        rw [List.nil_append, ← List.map_append, Nat.zero_add] at h
        rw [List.length_append, HT0.out, HT1.out]
        exact h
      obtain ⟨ag, bg, cg, rfl, Sg⟩ := own_strs o6 (by rw [List.length_append]; have h1 := HLa.out; have h2 := HLb.out; omega) HSM.out
      clear o4 g4 o5 g5 o6 cc3 hsz3
      go_wp2_with fail
      refine (join_len ag bg 0 cg (T0 ++ T1) _ _ _ rfl Sg H2.out).mono ?_
      rintro e w6 ⟨rfl, c6⟩
      have cc6 := bel_trans cc5 c6
      clear cc5 c6 Sg HS0 HS1
      go_wp2
      all_goals go_ret
      all_goals exact ⟨rfl, cc6⟩
    | true =>
      have H1 : Hid (joinV T1 = .tuple #[.string ⟨(joinB T1).toArray⟩, .int .i64 0]) := joinV_yes h1
      have H2 : Hid (joinV (T0 ++ T1) = .tuple #[.string ⟨(joinB (T0 ++ T1)).toArray⟩, .int .i64 0]) := joinV_yes (by rw [HJA.out, h0, h1]; rfl)
      have hj := join_two T0 T1 HLa.out HLb.out
      rw [HT0.out, HT1.out] at hj
      have hs0 := join_sz T0 h0
      have hs1 := join_sz T1 h1
      have hnl := numB_len (n := ((len0 : Nat) : Int) + ((len1 : Nat) : Int)) (by omega) (by omega)
      have hns : (⟨(numB (((len0 : Nat) : Int) + ((len1 : Nat) : Int))).toArray⟩ : ByteArray).size ≤ 10 := by rw [mk_size]; exact hnl
      obtain ⟨NN, hNN⟩ : ∃ NN : ByteArray, ⟨(numB (((len0 : Nat) : Int) + ((len1 : Nat) : Int))).toArray⟩ = NN := ⟨_, rfl⟩
      rw [hNN] at hj hns
      have HNN : Hid (⟨(numB (((len0 : Nat) : Int) + ((len1 : Nat) : Int))).toArray⟩ = NN) := hNN
      clear h0 h1 HJA hnl hNN
      generalize (⟨(joinB T0).toArray⟩ : ByteArray) = A at *
      generalize (⟨(joinB T1).toArray⟩ : ByteArray) = B at *
      generalize (⟨(joinB (T0 ++ T1)).toArray⟩ : ByteArray) = C at *
      have hA1 := ext_size A 1 A.size
      have hB1 := ext_size B 1 B.size
      have ha0 := fun (w : World) => run_string_add_sum (P := Try.prog) w NN (A.extract 1 A.size) (by omega)
      have hps : (NN ++ A.extract 1 A.size).size ≤ 5000010 := by rw [app_size]; omega
      obtain ⟨P, hP, haa, hPs⟩ : ∃ P : ByteArray, NN ++ A.extract 1 A.size = P ∧ (∀ w : World, (Op.stringOp .add NN (A.extract 1 A.size)).run Try.prog w = .ok (.string P) w) ∧ P.size ≤ 5000010 := ⟨_, rfl, ha0, hps⟩
      rw [hP] at hj
      have hbb := fun (w : World) => run_string_add_sum (P := Try.prog) w P (B.extract 1 B.size) (by omega)
      rw [hj] at hbb
      obtain ⟨hs0a, hs0b⟩ := hs0
      obtain ⟨hs1a, hs1b⟩ := hs1
      clear hj ha0 hP hps hA1 hB1 hPs hns
      go_wp2_with fail
      refine (join_len a0 b0 off0 cap0 T0 len0 _ _ HT0.out (HS0.out.below c1) H0.out).mono ?_
      rintro e w2 ⟨rfl, c2⟩
      have cc2 := bel_trans c1 c2
      clear c1 c2
      go_wp2_with fail
      refine (join_len a1 b1 off1 cap1 T1 len1 _ _ HT1.out (HS1.out.below cc2) H1.out).mono ?_
      rintro e w3 ⟨rfl, c3⟩
      have cc3 := bel_trans cc2 c3
      clear cc2 c3
      have hsz3 := cc3.size
      go_wp2_with (first
        | (at_builtin; refine wpList_append_strs _ rfl (.const (.slice none 0 0)) (.tmp 34) 23 rfl w3.heap.size 9 i0 Try.underlying23 hi hz0 hz1 hz2 _ 0 [] rfl (World.ownsRow_nil _ _ _ _) a0 b0 off0 cap0 T0 len0 HT0.out rfl (HS0.out.below cc3) N0.out (by omega) (Nat.le_refl _) ?_; intro v4 w4 o4 g4)
        | (at_builtin; refine wpList_append_strs _ rfl (.tmp 35) (.tmp 36) 23 rfl w3.heap.size 9 i0 Try.underlying23 hi hz0 hz1 hz2 _ _ _ rfl o4 a1 b1 off1 cap1 T1 len1 HT1.out rfl (HS1.out.below (app_below cc3 g4)) N1.out (by omega) g4.size ?_; intro v5 w5 o5 g5))
      have cc5 : Below w.heap.size w w5 := app_below2 cc3 g4 o4 g5
      have o6 : w5.ownsRow w3.heap.size 9 1 v5 (T0 ++ T1).length ((T0 ++ T1).map Value.string) := by
        have h := o5
        rw [List.nil_append, ← List.map_append, Nat.zero_add] at h
        rw [List.length_append, HT0.out, HT1.out]
        exact h
      obtain ⟨ag, bg, cg, rfl, Sg⟩ := own_strs o6 (by rw [List.length_append]; have h1 := HLa.out; have h2 := HLb.out; omega) HSM.out
      clear o4 g4 o5 g5 o6 cc3 hsz3
      go_wp2_with fail
      refine (join_len ag bg 0 cg (T0 ++ T1) _ _ _ rfl Sg H2.out).mono ?_
      rintro e w6 ⟨rfl, c6⟩
      have cc6 := bel_trans cc5 c6
      clear cc5 c6 Sg HS0 HS1
      go_wp2
      refine wp_region_quiet_below (by kernel_rfl) (by kernel_rfl) ?_
      repeat (first | go_big_quiet_step (exact Calls.regrown_of (num_is ((len0 : Int) + (len1 : Int)) NN _ (by omega) (by omega) HNN.out)) | quiet_step (exact Calls.regrown_of (num_is ((len0 : Int) + (len1 : Int)) NN _ (by omega) (by omega) HNN.out)))
      refine wpQuiet_nil ?_
      intro _ hw'
      obtain ⟨⟨dq, osq⟩, hw''⟩ := hw'
      subst hw''
      go_wp2
      go_ret
      exact ⟨rfl, bel_trans cc6 (below_regrown w6 dq osq)⟩

set_option maxRecDepth 100000 in
set_option maxHeartbeats 2000000 in
theorem walk_1 (a0 : Option Addr) (b0 off0 cap0 len0 : Nat) (T0 : List ByteArray) (a1 : Option Addr) (b1 off1 cap1 len1 : Nat) (T1 : List ByteArray) (w : World) (S0 : Strs w a0 b0 off0 T0) (S1 : Strs w a1 b1 off1 T1)
    (n0 : (a0 = none → cap0 = 0) ∧ len0 ≤ cap0 ∧ cap0 ≤ maxLen) (n1 : (a1 = none → cap1 = 0) ∧ len1 ≤ cap1 ∧ cap1 ≤ maxLen) (hl0 : len0 ≤ 20) (hT0 : T0.length = len0) (hl1 : 20 < len1) (hT1 : T1.length = 20) :
    Calls Try.prog 5 #[.slice a0 len0 cap0, .slice a1 len1 cap1] w fun e w' => e = .returned (.bool true) ∧ Below w.heap.size w w' := by
  obtain ⟨i0, hi, hz0, hz1, hz2⟩ := info_parts Try.infoStr
  obtain ⟨n0, n0', n0''⟩ := n0
  obtain ⟨n1, n1', n1''⟩ := n1
  unfold maxLen at n0'' n1''
  have N0 : Hid _ := n0
  have N1 : Hid _ := n1
  clear n0 n1
  have HT0 : Hid (T0.length = len0) := hT0
  have HT1 : Hid (T1.length = 20) := hT1
  have HS0 : Hid (Strs w a0 b0 off0 T0) := S0
  have HS1 : Hid (Strs w a1 b1 off1 T1) := S1
  have HLa : Hid (T0.length ≤ 20) := by show (_ : Nat) ≤ _; rw [HT0.out]; omega
  have HLb : Hid (T1.length ≤ 20) := by show (_ : Nat) ≤ _; rw [HT1.out]; omega
  have HSM : Hid (∀ x ∈ T0 ++ T1, x.size ≤ maxLen) := fun x hx => (List.mem_append.1 hx).elim (HS0.out.small x) (HS1.out.small x)
  have HJA : Hid (joinOk (T0 ++ T1) = (joinOk T0 && joinOk T1)) := joinOk_append _ _ HLa.out HLb.out
  clear S0 S1 hT0 hT1
  go_enter Try.func5, Try.ntmps5
  go_wp2_with fail
  refine (examples_any _).mono ?_
  rintro e w1 ⟨rfl, c1⟩
  cases h0 : joinOk T0 with
  | false =>
    have H0 : Hid (joinV T0 = .tuple #[.string ⟨#[]⟩, .int .i64 4]) := joinV_no h0
    have H2 : Hid (joinV (T0 ++ T1) = .tuple #[.string ⟨#[]⟩, .int .i64 4]) := joinV_no (by rw [HJA.out, h0]; rfl)
    have HX1 : Hid (∃ (s : ByteArray) (e : Int), joinV T1 = .tuple #[.string s, .int .i64 e]) := by
      cases h1 : joinOk T1 with
      | true => exact ⟨_, _, joinV_yes h1⟩
      | false => exact ⟨_, _, joinV_no h1⟩
    obtain ⟨s1, e1, hx1⟩ := HX1.out
    have H1 : Hid (joinV T1 = .tuple #[.string s1, .int .i64 e1]) := hx1
    clear h0 hx1 HX1 HJA
    go_wp2_with fail
    refine (join_len a0 b0 off0 cap0 T0 len0 _ _ HT0.out (HS0.out.below c1) H0.out).mono ?_
    rintro e w2 ⟨rfl, c2⟩
    have cc2 := bel_trans c1 c2
    clear c1 c2
    go_wp2_with fail
    refine (join_len a1 b1 off1 cap1 T1 20 _ _ HT1.out (HS1.out.below cc2) H1.out).mono ?_
    rintro e w3 ⟨rfl, c3⟩
    have cc3 := bel_trans cc2 c3
    clear cc2 c3
    have hsz3 := cc3.size
    go_wp2_with (first
      | (at_builtin; refine wpList_append_strs _ rfl (.const (.slice none 0 0)) (.tmp 34) 23 rfl w3.heap.size 9 i0 Try.underlying23 hi hz0 hz1 hz2 _ 0 [] rfl (World.ownsRow_nil _ _ _ _) a0 b0 off0 cap0 T0 len0 HT0.out rfl (HS0.out.below cc3) N0.out (by omega) (Nat.le_refl _) ?_; intro v4 w4 o4 g4)
      | (at_builtin; refine wpList_append_strs _ rfl (.tmp 35) (.tmp 36) 23 rfl w3.heap.size 9 i0 Try.underlying23 hi hz0 hz1 hz2 _ _ _ rfl o4 a1 b1 off1 cap1 T1 20 HT1.out rfl (HS1.out.below (app_below cc3 g4)) N1.out (by omega) g4.size ?_; intro v5 w5 o5 g5))
    have cc5 : Below w.heap.size w w5 := app_below2 cc3 g4 o4 g5
    have o6 : w5.ownsRow w3.heap.size 9 1 v5 (T0 ++ T1).length ((T0 ++ T1).map Value.string) := by
      have h := o5
      rw [List.nil_append, ← List.map_append, Nat.zero_add] at h
      rw [List.length_append, HT0.out, HT1.out]
      exact h
    obtain ⟨ag, bg, cg, rfl, Sg⟩ := own_strs o6 (by rw [List.length_append]; have h1 := HLa.out; have h2 := HLb.out; omega) HSM.out
    clear o4 g4 o5 g5 o6 cc3 hsz3
    go_wp2_with fail
    refine (join_len ag bg 0 cg (T0 ++ T1) _ _ _ rfl Sg H2.out).mono ?_
    rintro e w6 ⟨rfl, c6⟩
    have cc6 := bel_trans cc5 c6
    clear cc5 c6 Sg HS0 HS1
    go_wp2
    all_goals go_ret
    all_goals exact ⟨rfl, cc6⟩
  | true =>
    have H0 : Hid (joinV T0 = .tuple #[.string ⟨(joinB T0).toArray⟩, .int .i64 0]) := joinV_yes h0
    cases h1 : joinOk T1 with
    | false =>
      have H1 : Hid (joinV T1 = .tuple #[.string ⟨#[]⟩, .int .i64 4]) := joinV_no h1
      have H2 : Hid (joinV (T0 ++ T1) = .tuple #[.string ⟨#[]⟩, .int .i64 4]) := joinV_no (by rw [HJA.out, h0, h1]; rfl)
      clear h0 h1 HJA
      generalize (⟨(joinB T0).toArray⟩ : ByteArray) = A at *
      go_wp2_with fail
      refine (join_len a0 b0 off0 cap0 T0 len0 _ _ HT0.out (HS0.out.below c1) H0.out).mono ?_
      rintro e w2 ⟨rfl, c2⟩
      have cc2 := bel_trans c1 c2
      clear c1 c2
      go_wp2_with fail
      refine (join_len a1 b1 off1 cap1 T1 20 _ _ HT1.out (HS1.out.below cc2) H1.out).mono ?_
      rintro e w3 ⟨rfl, c3⟩
      have cc3 := bel_trans cc2 c3
      clear cc2 c3
      have hsz3 := cc3.size
      go_wp2_with (first
        | (at_builtin; refine wpList_append_strs _ rfl (.const (.slice none 0 0)) (.tmp 34) 23 rfl w3.heap.size 9 i0 Try.underlying23 hi hz0 hz1 hz2 _ 0 [] rfl (World.ownsRow_nil _ _ _ _) a0 b0 off0 cap0 T0 len0 HT0.out rfl (HS0.out.below cc3) N0.out (by omega) (Nat.le_refl _) ?_; intro v4 w4 o4 g4)
        | (at_builtin; refine wpList_append_strs _ rfl (.tmp 35) (.tmp 36) 23 rfl w3.heap.size 9 i0 Try.underlying23 hi hz0 hz1 hz2 _ _ _ rfl o4 a1 b1 off1 cap1 T1 20 HT1.out rfl (HS1.out.below (app_below cc3 g4)) N1.out (by omega) g4.size ?_; intro v5 w5 o5 g5))
      have cc5 : Below w.heap.size w w5 := app_below2 cc3 g4 o4 g5
      have o6 : w5.ownsRow w3.heap.size 9 1 v5 (T0 ++ T1).length ((T0 ++ T1).map Value.string) := by
        have h := o5
        rw [List.nil_append, ← List.map_append, Nat.zero_add] at h
        rw [List.length_append, HT0.out, HT1.out]
        exact h
      obtain ⟨ag, bg, cg, rfl, Sg⟩ := own_strs o6 (by rw [List.length_append]; have h1 := HLa.out; have h2 := HLb.out; omega) HSM.out
      clear o4 g4 o5 g5 o6 cc3 hsz3
      go_wp2_with fail
      refine (join_len ag bg 0 cg (T0 ++ T1) _ _ _ rfl Sg H2.out).mono ?_
      rintro e w6 ⟨rfl, c6⟩
      have cc6 := bel_trans cc5 c6
      clear cc5 c6 Sg HS0 HS1
      go_wp2
      all_goals go_ret
      all_goals exact ⟨rfl, cc6⟩
    | true =>
      have H1 : Hid (joinV T1 = .tuple #[.string ⟨(joinB T1).toArray⟩, .int .i64 0]) := joinV_yes h1
      have H2 : Hid (joinV (T0 ++ T1) = .tuple #[.string ⟨(joinB (T0 ++ T1)).toArray⟩, .int .i64 0]) := joinV_yes (by rw [HJA.out, h0, h1]; rfl)
      have hj := join_two T0 T1 HLa.out HLb.out
      rw [HT0.out, HT1.out] at hj
      have hs0 := join_sz T0 h0
      have hs1 := join_sz T1 h1
      have hnl := numB_len (n := ((len0 : Nat) : Int) + ((20 : Nat) : Int)) (by omega) (by omega)
      have hns : (⟨(numB (((len0 : Nat) : Int) + ((20 : Nat) : Int))).toArray⟩ : ByteArray).size ≤ 10 := by rw [mk_size]; exact hnl
      obtain ⟨NN, hNN⟩ : ∃ NN : ByteArray, ⟨(numB (((len0 : Nat) : Int) + ((20 : Nat) : Int))).toArray⟩ = NN := ⟨_, rfl⟩
      rw [hNN] at hj hns
      have HNN : Hid (⟨(numB (((len0 : Nat) : Int) + ((20 : Nat) : Int))).toArray⟩ = NN) := hNN
      clear h0 h1 HJA hnl hNN
      generalize (⟨(joinB T0).toArray⟩ : ByteArray) = A at *
      generalize (⟨(joinB T1).toArray⟩ : ByteArray) = B at *
      generalize (⟨(joinB (T0 ++ T1)).toArray⟩ : ByteArray) = C at *
      have hA1 := ext_size A 1 A.size
      have hB1 := ext_size B 1 B.size
      have ha0 := fun (w : World) => run_string_add_sum (P := Try.prog) w NN (A.extract 1 A.size) (by omega)
      have hps : (NN ++ A.extract 1 A.size).size ≤ 5000010 := by rw [app_size]; omega
      obtain ⟨P, hP, haa, hPs⟩ : ∃ P : ByteArray, NN ++ A.extract 1 A.size = P ∧ (∀ w : World, (Op.stringOp .add NN (A.extract 1 A.size)).run Try.prog w = .ok (.string P) w) ∧ P.size ≤ 5000010 := ⟨_, rfl, ha0, hps⟩
      rw [hP] at hj
      have hbb := fun (w : World) => run_string_add_sum (P := Try.prog) w P (B.extract 1 B.size) (by omega)
      rw [hj] at hbb
      obtain ⟨hs0a, hs0b⟩ := hs0
      obtain ⟨hs1a, hs1b⟩ := hs1
      clear hj ha0 hP hps hA1 hB1 hPs hns
      go_wp2_with fail
      refine (join_len a0 b0 off0 cap0 T0 len0 _ _ HT0.out (HS0.out.below c1) H0.out).mono ?_
      rintro e w2 ⟨rfl, c2⟩
      have cc2 := bel_trans c1 c2
      clear c1 c2
      go_wp2_with fail
      refine (join_len a1 b1 off1 cap1 T1 20 _ _ HT1.out (HS1.out.below cc2) H1.out).mono ?_
      rintro e w3 ⟨rfl, c3⟩
      have cc3 := bel_trans cc2 c3
      clear cc2 c3
      have hsz3 := cc3.size
      go_wp2_with (first
        | (at_builtin; refine wpList_append_strs _ rfl (.const (.slice none 0 0)) (.tmp 34) 23 rfl w3.heap.size 9 i0 Try.underlying23 hi hz0 hz1 hz2 _ 0 [] rfl (World.ownsRow_nil _ _ _ _) a0 b0 off0 cap0 T0 len0 HT0.out rfl (HS0.out.below cc3) N0.out (by omega) (Nat.le_refl _) ?_; intro v4 w4 o4 g4)
        | (at_builtin; refine wpList_append_strs _ rfl (.tmp 35) (.tmp 36) 23 rfl w3.heap.size 9 i0 Try.underlying23 hi hz0 hz1 hz2 _ _ _ rfl o4 a1 b1 off1 cap1 T1 20 HT1.out rfl (HS1.out.below (app_below cc3 g4)) N1.out (by omega) g4.size ?_; intro v5 w5 o5 g5))
      have cc5 : Below w.heap.size w w5 := app_below2 cc3 g4 o4 g5
      have o6 : w5.ownsRow w3.heap.size 9 1 v5 (T0 ++ T1).length ((T0 ++ T1).map Value.string) := by
        have h := o5
        rw [List.nil_append, ← List.map_append, Nat.zero_add] at h
        rw [List.length_append, HT0.out, HT1.out]
        exact h
      obtain ⟨ag, bg, cg, rfl, Sg⟩ := own_strs o6 (by rw [List.length_append]; have h1 := HLa.out; have h2 := HLb.out; omega) HSM.out
      clear o4 g4 o5 g5 o6 cc3 hsz3
      go_wp2_with fail
      refine (join_len ag bg 0 cg (T0 ++ T1) _ _ _ rfl Sg H2.out).mono ?_
      rintro e w6 ⟨rfl, c6⟩
      have cc6 := bel_trans cc5 c6
      clear cc5 c6 Sg HS0 HS1
      go_wp2
      refine wp_region_quiet_below (by kernel_rfl) (by kernel_rfl) ?_
      repeat (first | go_big_quiet_step (exact Calls.regrown_of (num_is ((len0 : Int) + 20) NN _ (by omega) (by omega) HNN.out)) | quiet_step (exact Calls.regrown_of (num_is ((len0 : Int) + 20) NN _ (by omega) (by omega) HNN.out)))
      refine wpQuiet_nil ?_
      intro _ hw'
      obtain ⟨⟨dq, osq⟩, hw''⟩ := hw'
      subst hw''
      go_wp2
      go_ret
      exact ⟨rfl, bel_trans cc6 (below_regrown w6 dq osq)⟩

set_option maxRecDepth 100000 in
set_option maxHeartbeats 2000000 in
theorem walk_2 (a0 : Option Addr) (b0 off0 cap0 len0 : Nat) (T0 : List ByteArray) (a1 : Option Addr) (b1 off1 cap1 len1 : Nat) (T1 : List ByteArray) (w : World) (S0 : Strs w a0 b0 off0 T0) (S1 : Strs w a1 b1 off1 T1)
    (n0 : (a0 = none → cap0 = 0) ∧ len0 ≤ cap0 ∧ cap0 ≤ maxLen) (n1 : (a1 = none → cap1 = 0) ∧ len1 ≤ cap1 ∧ cap1 ≤ maxLen) (hl0 : 20 < len0) (hT0 : T0.length = 20) (hl1 : len1 ≤ 20) (hT1 : T1.length = len1) :
    Calls Try.prog 5 #[.slice a0 len0 cap0, .slice a1 len1 cap1] w fun e w' => e = .returned (.bool true) ∧ Below w.heap.size w w' := by
  obtain ⟨i0, hi, hz0, hz1, hz2⟩ := info_parts Try.infoStr
  obtain ⟨n0, n0', n0''⟩ := n0
  obtain ⟨n1, n1', n1''⟩ := n1
  unfold maxLen at n0'' n1''
  have N0 : Hid _ := n0
  have N1 : Hid _ := n1
  clear n0 n1
  have HT0 : Hid (T0.length = 20) := hT0
  have HT1 : Hid (T1.length = len1) := hT1
  have HS0 : Hid (Strs w a0 b0 off0 T0) := S0
  have HS1 : Hid (Strs w a1 b1 off1 T1) := S1
  have HLa : Hid (T0.length ≤ 20) := by show (_ : Nat) ≤ _; rw [HT0.out]; omega
  have HLb : Hid (T1.length ≤ 20) := by show (_ : Nat) ≤ _; rw [HT1.out]; omega
  have HSM : Hid (∀ x ∈ T0 ++ T1, x.size ≤ maxLen) := fun x hx => (List.mem_append.1 hx).elim (HS0.out.small x) (HS1.out.small x)
  have HJA : Hid (joinOk (T0 ++ T1) = (joinOk T0 && joinOk T1)) := joinOk_append _ _ HLa.out HLb.out
  clear S0 S1 hT0 hT1
  go_enter Try.func5, Try.ntmps5
  go_wp2_with fail
  refine (examples_any _).mono ?_
  rintro e w1 ⟨rfl, c1⟩
  cases h0 : joinOk T0 with
  | false =>
    have H0 : Hid (joinV T0 = .tuple #[.string ⟨#[]⟩, .int .i64 4]) := joinV_no h0
    have H2 : Hid (joinV (T0 ++ T1) = .tuple #[.string ⟨#[]⟩, .int .i64 4]) := joinV_no (by rw [HJA.out, h0]; rfl)
    have HX1 : Hid (∃ (s : ByteArray) (e : Int), joinV T1 = .tuple #[.string s, .int .i64 e]) := by
      cases h1 : joinOk T1 with
      | true => exact ⟨_, _, joinV_yes h1⟩
      | false => exact ⟨_, _, joinV_no h1⟩
    obtain ⟨s1, e1, hx1⟩ := HX1.out
    have H1 : Hid (joinV T1 = .tuple #[.string s1, .int .i64 e1]) := hx1
    clear h0 hx1 HX1 HJA
    go_wp2_with fail
    refine (join_len a0 b0 off0 cap0 T0 20 _ _ HT0.out (HS0.out.below c1) H0.out).mono ?_
    rintro e w2 ⟨rfl, c2⟩
    have cc2 := bel_trans c1 c2
    clear c1 c2
    go_wp2_with fail
    refine (join_len a1 b1 off1 cap1 T1 len1 _ _ HT1.out (HS1.out.below cc2) H1.out).mono ?_
    rintro e w3 ⟨rfl, c3⟩
    have cc3 := bel_trans cc2 c3
    clear cc2 c3
    have hsz3 := cc3.size
    go_wp2_with (first
      | (at_builtin; refine wpList_append_strs _ rfl (.const (.slice none 0 0)) (.tmp 34) 23 rfl w3.heap.size 9 i0 Try.underlying23 hi hz0 hz1 hz2 _ 0 [] rfl (World.ownsRow_nil _ _ _ _) a0 b0 off0 cap0 T0 20 HT0.out rfl (HS0.out.below cc3) N0.out (by omega) (Nat.le_refl _) ?_; intro v4 w4 o4 g4)
      | (at_builtin; refine wpList_append_strs _ rfl (.tmp 35) (.tmp 36) 23 rfl w3.heap.size 9 i0 Try.underlying23 hi hz0 hz1 hz2 _ _ _ rfl o4 a1 b1 off1 cap1 T1 len1 HT1.out rfl (HS1.out.below (app_below cc3 g4)) N1.out (by omega) g4.size ?_; intro v5 w5 o5 g5))
    have cc5 : Below w.heap.size w w5 := app_below2 cc3 g4 o4 g5
    have o6 : w5.ownsRow w3.heap.size 9 1 v5 (T0 ++ T1).length ((T0 ++ T1).map Value.string) := by
      have h := o5
      rw [List.nil_append, ← List.map_append, Nat.zero_add] at h
      rw [List.length_append, HT0.out, HT1.out]
      exact h
    obtain ⟨ag, bg, cg, rfl, Sg⟩ := own_strs o6 (by rw [List.length_append]; have h1 := HLa.out; have h2 := HLb.out; omega) HSM.out
    clear o4 g4 o5 g5 o6 cc3 hsz3
    go_wp2_with fail
    refine (join_len ag bg 0 cg (T0 ++ T1) _ _ _ rfl Sg H2.out).mono ?_
    rintro e w6 ⟨rfl, c6⟩
    have cc6 := bel_trans cc5 c6
    clear cc5 c6 Sg HS0 HS1
    go_wp2
    all_goals go_ret
    all_goals exact ⟨rfl, cc6⟩
  | true =>
    have H0 : Hid (joinV T0 = .tuple #[.string ⟨(joinB T0).toArray⟩, .int .i64 0]) := joinV_yes h0
    cases h1 : joinOk T1 with
    | false =>
      have H1 : Hid (joinV T1 = .tuple #[.string ⟨#[]⟩, .int .i64 4]) := joinV_no h1
      have H2 : Hid (joinV (T0 ++ T1) = .tuple #[.string ⟨#[]⟩, .int .i64 4]) := joinV_no (by rw [HJA.out, h0, h1]; rfl)
      clear h0 h1 HJA
      generalize (⟨(joinB T0).toArray⟩ : ByteArray) = A at *
      go_wp2_with fail
      refine (join_len a0 b0 off0 cap0 T0 20 _ _ HT0.out (HS0.out.below c1) H0.out).mono ?_
      rintro e w2 ⟨rfl, c2⟩
      have cc2 := bel_trans c1 c2
      clear c1 c2
      go_wp2_with fail
      refine (join_len a1 b1 off1 cap1 T1 len1 _ _ HT1.out (HS1.out.below cc2) H1.out).mono ?_
      rintro e w3 ⟨rfl, c3⟩
      have cc3 := bel_trans cc2 c3
      clear cc2 c3
      have hsz3 := cc3.size
      go_wp2_with (first
        | (at_builtin; refine wpList_append_strs _ rfl (.const (.slice none 0 0)) (.tmp 34) 23 rfl w3.heap.size 9 i0 Try.underlying23 hi hz0 hz1 hz2 _ 0 [] rfl (World.ownsRow_nil _ _ _ _) a0 b0 off0 cap0 T0 20 HT0.out rfl (HS0.out.below cc3) N0.out (by omega) (Nat.le_refl _) ?_; intro v4 w4 o4 g4)
        | (at_builtin; refine wpList_append_strs _ rfl (.tmp 35) (.tmp 36) 23 rfl w3.heap.size 9 i0 Try.underlying23 hi hz0 hz1 hz2 _ _ _ rfl o4 a1 b1 off1 cap1 T1 len1 HT1.out rfl (HS1.out.below (app_below cc3 g4)) N1.out (by omega) g4.size ?_; intro v5 w5 o5 g5))
      have cc5 : Below w.heap.size w w5 := app_below2 cc3 g4 o4 g5
      have o6 : w5.ownsRow w3.heap.size 9 1 v5 (T0 ++ T1).length ((T0 ++ T1).map Value.string) := by
        have h := o5
        rw [List.nil_append, ← List.map_append, Nat.zero_add] at h
        rw [List.length_append, HT0.out, HT1.out]
        exact h
      obtain ⟨ag, bg, cg, rfl, Sg⟩ := own_strs o6 (by rw [List.length_append]; have h1 := HLa.out; have h2 := HLb.out; omega) HSM.out
      clear o4 g4 o5 g5 o6 cc3 hsz3
      go_wp2_with fail
      refine (join_len ag bg 0 cg (T0 ++ T1) _ _ _ rfl Sg H2.out).mono ?_
      rintro e w6 ⟨rfl, c6⟩
      have cc6 := bel_trans cc5 c6
      clear cc5 c6 Sg HS0 HS1
      go_wp2
      all_goals go_ret
      all_goals exact ⟨rfl, cc6⟩
    | true =>
      have H1 : Hid (joinV T1 = .tuple #[.string ⟨(joinB T1).toArray⟩, .int .i64 0]) := joinV_yes h1
      have H2 : Hid (joinV (T0 ++ T1) = .tuple #[.string ⟨(joinB (T0 ++ T1)).toArray⟩, .int .i64 0]) := joinV_yes (by rw [HJA.out, h0, h1]; rfl)
      have hj := join_two T0 T1 HLa.out HLb.out
      rw [HT0.out, HT1.out] at hj
      have hs0 := join_sz T0 h0
      have hs1 := join_sz T1 h1
      have hnl := numB_len (n := ((20 : Nat) : Int) + ((len1 : Nat) : Int)) (by omega) (by omega)
      have hns : (⟨(numB (((20 : Nat) : Int) + ((len1 : Nat) : Int))).toArray⟩ : ByteArray).size ≤ 10 := by rw [mk_size]; exact hnl
      obtain ⟨NN, hNN⟩ : ∃ NN : ByteArray, ⟨(numB (((20 : Nat) : Int) + ((len1 : Nat) : Int))).toArray⟩ = NN := ⟨_, rfl⟩
      rw [hNN] at hj hns
      have HNN : Hid (⟨(numB (((20 : Nat) : Int) + ((len1 : Nat) : Int))).toArray⟩ = NN) := hNN
      clear h0 h1 HJA hnl hNN
      generalize (⟨(joinB T0).toArray⟩ : ByteArray) = A at *
      generalize (⟨(joinB T1).toArray⟩ : ByteArray) = B at *
      generalize (⟨(joinB (T0 ++ T1)).toArray⟩ : ByteArray) = C at *
      have hA1 := ext_size A 1 A.size
      have hB1 := ext_size B 1 B.size
      have ha0 := fun (w : World) => run_string_add_sum (P := Try.prog) w NN (A.extract 1 A.size) (by omega)
      have hps : (NN ++ A.extract 1 A.size).size ≤ 5000010 := by rw [app_size]; omega
      obtain ⟨P, hP, haa, hPs⟩ : ∃ P : ByteArray, NN ++ A.extract 1 A.size = P ∧ (∀ w : World, (Op.stringOp .add NN (A.extract 1 A.size)).run Try.prog w = .ok (.string P) w) ∧ P.size ≤ 5000010 := ⟨_, rfl, ha0, hps⟩
      rw [hP] at hj
      have hbb := fun (w : World) => run_string_add_sum (P := Try.prog) w P (B.extract 1 B.size) (by omega)
      rw [hj] at hbb
      obtain ⟨hs0a, hs0b⟩ := hs0
      obtain ⟨hs1a, hs1b⟩ := hs1
      clear hj ha0 hP hps hA1 hB1 hPs hns
      go_wp2_with fail
      refine (join_len a0 b0 off0 cap0 T0 20 _ _ HT0.out (HS0.out.below c1) H0.out).mono ?_
      rintro e w2 ⟨rfl, c2⟩
      have cc2 := bel_trans c1 c2
      clear c1 c2
      go_wp2_with fail
      refine (join_len a1 b1 off1 cap1 T1 len1 _ _ HT1.out (HS1.out.below cc2) H1.out).mono ?_
      rintro e w3 ⟨rfl, c3⟩
      have cc3 := bel_trans cc2 c3
      clear cc2 c3
      have hsz3 := cc3.size
      go_wp2_with (first
        | (at_builtin; refine wpList_append_strs _ rfl (.const (.slice none 0 0)) (.tmp 34) 23 rfl w3.heap.size 9 i0 Try.underlying23 hi hz0 hz1 hz2 _ 0 [] rfl (World.ownsRow_nil _ _ _ _) a0 b0 off0 cap0 T0 20 HT0.out rfl (HS0.out.below cc3) N0.out (by omega) (Nat.le_refl _) ?_; intro v4 w4 o4 g4)
        | (at_builtin; refine wpList_append_strs _ rfl (.tmp 35) (.tmp 36) 23 rfl w3.heap.size 9 i0 Try.underlying23 hi hz0 hz1 hz2 _ _ _ rfl o4 a1 b1 off1 cap1 T1 len1 HT1.out rfl (HS1.out.below (app_below cc3 g4)) N1.out (by omega) g4.size ?_; intro v5 w5 o5 g5))
      have cc5 : Below w.heap.size w w5 := app_below2 cc3 g4 o4 g5
      have o6 : w5.ownsRow w3.heap.size 9 1 v5 (T0 ++ T1).length ((T0 ++ T1).map Value.string) := by
        have h := o5
        rw [List.nil_append, ← List.map_append, Nat.zero_add] at h
        rw [List.length_append, HT0.out, HT1.out]
        exact h
      obtain ⟨ag, bg, cg, rfl, Sg⟩ := own_strs o6 (by rw [List.length_append]; have h1 := HLa.out; have h2 := HLb.out; omega) HSM.out
      clear o4 g4 o5 g5 o6 cc3 hsz3
      go_wp2_with fail
      refine (join_len ag bg 0 cg (T0 ++ T1) _ _ _ rfl Sg H2.out).mono ?_
      rintro e w6 ⟨rfl, c6⟩
      have cc6 := bel_trans cc5 c6
      clear cc5 c6 Sg HS0 HS1
      go_wp2
      refine wp_region_quiet_below (by kernel_rfl) (by kernel_rfl) ?_
      repeat (first | go_big_quiet_step (exact Calls.regrown_of (num_is (20 + (len1 : Int)) NN _ (by omega) (by omega) HNN.out)) | quiet_step (exact Calls.regrown_of (num_is (20 + (len1 : Int)) NN _ (by omega) (by omega) HNN.out)))
      refine wpQuiet_nil ?_
      intro _ hw'
      obtain ⟨⟨dq, osq⟩, hw''⟩ := hw'
      subst hw''
      go_wp2
      go_ret
      exact ⟨rfl, bel_trans cc6 (below_regrown w6 dq osq)⟩

set_option maxRecDepth 100000 in
set_option maxHeartbeats 2000000 in
theorem walk_3 (a0 : Option Addr) (b0 off0 cap0 len0 : Nat) (T0 : List ByteArray) (a1 : Option Addr) (b1 off1 cap1 len1 : Nat) (T1 : List ByteArray) (w : World) (S0 : Strs w a0 b0 off0 T0) (S1 : Strs w a1 b1 off1 T1)
    (n0 : (a0 = none → cap0 = 0) ∧ len0 ≤ cap0 ∧ cap0 ≤ maxLen) (n1 : (a1 = none → cap1 = 0) ∧ len1 ≤ cap1 ∧ cap1 ≤ maxLen) (hl0 : 20 < len0) (hT0 : T0.length = 20) (hl1 : 20 < len1) (hT1 : T1.length = 20) :
    Calls Try.prog 5 #[.slice a0 len0 cap0, .slice a1 len1 cap1] w fun e w' => e = .returned (.bool true) ∧ Below w.heap.size w w' := by
  obtain ⟨i0, hi, hz0, hz1, hz2⟩ := info_parts Try.infoStr
  obtain ⟨n0, n0', n0''⟩ := n0
  obtain ⟨n1, n1', n1''⟩ := n1
  unfold maxLen at n0'' n1''
  have N0 : Hid _ := n0
  have N1 : Hid _ := n1
  clear n0 n1
  have HT0 : Hid (T0.length = 20) := hT0
  have HT1 : Hid (T1.length = 20) := hT1
  have HS0 : Hid (Strs w a0 b0 off0 T0) := S0
  have HS1 : Hid (Strs w a1 b1 off1 T1) := S1
  have HLa : Hid (T0.length ≤ 20) := by show (_ : Nat) ≤ _; rw [HT0.out]; omega
  have HLb : Hid (T1.length ≤ 20) := by show (_ : Nat) ≤ _; rw [HT1.out]; omega
  have HSM : Hid (∀ x ∈ T0 ++ T1, x.size ≤ maxLen) := fun x hx => (List.mem_append.1 hx).elim (HS0.out.small x) (HS1.out.small x)
  have HJA : Hid (joinOk (T0 ++ T1) = (joinOk T0 && joinOk T1)) := joinOk_append _ _ HLa.out HLb.out
  clear S0 S1 hT0 hT1
  go_enter Try.func5, Try.ntmps5
  go_wp2_with fail
  refine (examples_any _).mono ?_
  rintro e w1 ⟨rfl, c1⟩
  cases h0 : joinOk T0 with
  | false =>
    have H0 : Hid (joinV T0 = .tuple #[.string ⟨#[]⟩, .int .i64 4]) := joinV_no h0
    have H2 : Hid (joinV (T0 ++ T1) = .tuple #[.string ⟨#[]⟩, .int .i64 4]) := joinV_no (by rw [HJA.out, h0]; rfl)
    have HX1 : Hid (∃ (s : ByteArray) (e : Int), joinV T1 = .tuple #[.string s, .int .i64 e]) := by
      cases h1 : joinOk T1 with
      | true => exact ⟨_, _, joinV_yes h1⟩
      | false => exact ⟨_, _, joinV_no h1⟩
    obtain ⟨s1, e1, hx1⟩ := HX1.out
    have H1 : Hid (joinV T1 = .tuple #[.string s1, .int .i64 e1]) := hx1
    clear h0 hx1 HX1 HJA
    go_wp2_with fail
    refine (join_len a0 b0 off0 cap0 T0 20 _ _ HT0.out (HS0.out.below c1) H0.out).mono ?_
    rintro e w2 ⟨rfl, c2⟩
    have cc2 := bel_trans c1 c2
    clear c1 c2
    go_wp2_with fail
    refine (join_len a1 b1 off1 cap1 T1 20 _ _ HT1.out (HS1.out.below cc2) H1.out).mono ?_
    rintro e w3 ⟨rfl, c3⟩
    have cc3 := bel_trans cc2 c3
    clear cc2 c3
    have hsz3 := cc3.size
    go_wp2_with (first
      | (at_builtin; refine wpList_append_strs _ rfl (.const (.slice none 0 0)) (.tmp 34) 23 rfl w3.heap.size 9 i0 Try.underlying23 hi hz0 hz1 hz2 _ 0 [] rfl (World.ownsRow_nil _ _ _ _) a0 b0 off0 cap0 T0 20 HT0.out rfl (HS0.out.below cc3) N0.out (by omega) (Nat.le_refl _) ?_; intro v4 w4 o4 g4)
      | (at_builtin; refine wpList_append_strs _ rfl (.tmp 35) (.tmp 36) 23 rfl w3.heap.size 9 i0 Try.underlying23 hi hz0 hz1 hz2 _ _ _ rfl o4 a1 b1 off1 cap1 T1 20 HT1.out rfl (HS1.out.below (app_below cc3 g4)) N1.out (by omega) g4.size ?_; intro v5 w5 o5 g5))
    have cc5 : Below w.heap.size w w5 := app_below2 cc3 g4 o4 g5
    have o6 : w5.ownsRow w3.heap.size 9 1 v5 (T0 ++ T1).length ((T0 ++ T1).map Value.string) := by
      have h := o5
      rw [List.nil_append, ← List.map_append, Nat.zero_add] at h
      rw [List.length_append, HT0.out, HT1.out]
      exact h
    obtain ⟨ag, bg, cg, rfl, Sg⟩ := own_strs o6 (by rw [List.length_append]; have h1 := HLa.out; have h2 := HLb.out; omega) HSM.out
    clear o4 g4 o5 g5 o6 cc3 hsz3
    go_wp2_with fail
    refine (join_len ag bg 0 cg (T0 ++ T1) _ _ _ rfl Sg H2.out).mono ?_
    rintro e w6 ⟨rfl, c6⟩
    have cc6 := bel_trans cc5 c6
    clear cc5 c6 Sg HS0 HS1
    go_wp2
    all_goals go_ret
    all_goals exact ⟨rfl, cc6⟩
  | true =>
    have H0 : Hid (joinV T0 = .tuple #[.string ⟨(joinB T0).toArray⟩, .int .i64 0]) := joinV_yes h0
    cases h1 : joinOk T1 with
    | false =>
      have H1 : Hid (joinV T1 = .tuple #[.string ⟨#[]⟩, .int .i64 4]) := joinV_no h1
      have H2 : Hid (joinV (T0 ++ T1) = .tuple #[.string ⟨#[]⟩, .int .i64 4]) := joinV_no (by rw [HJA.out, h0, h1]; rfl)
      clear h0 h1 HJA
      generalize (⟨(joinB T0).toArray⟩ : ByteArray) = A at *
      go_wp2_with fail
      refine (join_len a0 b0 off0 cap0 T0 20 _ _ HT0.out (HS0.out.below c1) H0.out).mono ?_
      rintro e w2 ⟨rfl, c2⟩
      have cc2 := bel_trans c1 c2
      clear c1 c2
      go_wp2_with fail
      refine (join_len a1 b1 off1 cap1 T1 20 _ _ HT1.out (HS1.out.below cc2) H1.out).mono ?_
      rintro e w3 ⟨rfl, c3⟩
      have cc3 := bel_trans cc2 c3
      clear cc2 c3
      have hsz3 := cc3.size
      go_wp2_with (first
        | (at_builtin; refine wpList_append_strs _ rfl (.const (.slice none 0 0)) (.tmp 34) 23 rfl w3.heap.size 9 i0 Try.underlying23 hi hz0 hz1 hz2 _ 0 [] rfl (World.ownsRow_nil _ _ _ _) a0 b0 off0 cap0 T0 20 HT0.out rfl (HS0.out.below cc3) N0.out (by omega) (Nat.le_refl _) ?_; intro v4 w4 o4 g4)
        | (at_builtin; refine wpList_append_strs _ rfl (.tmp 35) (.tmp 36) 23 rfl w3.heap.size 9 i0 Try.underlying23 hi hz0 hz1 hz2 _ _ _ rfl o4 a1 b1 off1 cap1 T1 20 HT1.out rfl (HS1.out.below (app_below cc3 g4)) N1.out (by omega) g4.size ?_; intro v5 w5 o5 g5))
      have cc5 : Below w.heap.size w w5 := app_below2 cc3 g4 o4 g5
      have o6 : w5.ownsRow w3.heap.size 9 1 v5 (T0 ++ T1).length ((T0 ++ T1).map Value.string) := by
        have h := o5
        rw [List.nil_append, ← List.map_append, Nat.zero_add] at h
        rw [List.length_append, HT0.out, HT1.out]
        exact h
      obtain ⟨ag, bg, cg, rfl, Sg⟩ := own_strs o6 (by rw [List.length_append]; have h1 := HLa.out; have h2 := HLb.out; omega) HSM.out
      clear o4 g4 o5 g5 o6 cc3 hsz3
      go_wp2_with fail
      refine (join_len ag bg 0 cg (T0 ++ T1) _ _ _ rfl Sg H2.out).mono ?_
      rintro e w6 ⟨rfl, c6⟩
      have cc6 := bel_trans cc5 c6
      clear cc5 c6 Sg HS0 HS1
      go_wp2
      all_goals go_ret
      all_goals exact ⟨rfl, cc6⟩
    | true =>
      have H1 : Hid (joinV T1 = .tuple #[.string ⟨(joinB T1).toArray⟩, .int .i64 0]) := joinV_yes h1
      have H2 : Hid (joinV (T0 ++ T1) = .tuple #[.string ⟨(joinB (T0 ++ T1)).toArray⟩, .int .i64 0]) := joinV_yes (by rw [HJA.out, h0, h1]; rfl)
      have hj := join_two T0 T1 HLa.out HLb.out
      rw [HT0.out, HT1.out] at hj
      have hs0 := join_sz T0 h0
      have hs1 := join_sz T1 h1
      have hnl := numB_len (n := ((20 : Nat) : Int) + ((20 : Nat) : Int)) (by omega) (by omega)
      have hns : (⟨(numB (((20 : Nat) : Int) + ((20 : Nat) : Int))).toArray⟩ : ByteArray).size ≤ 10 := by rw [mk_size]; exact hnl
      obtain ⟨NN, hNN⟩ : ∃ NN : ByteArray, ⟨(numB (((20 : Nat) : Int) + ((20 : Nat) : Int))).toArray⟩ = NN := ⟨_, rfl⟩
      rw [hNN] at hj hns
      have HNN : Hid (⟨(numB (((20 : Nat) : Int) + ((20 : Nat) : Int))).toArray⟩ = NN) := hNN
      clear h0 h1 HJA hnl hNN
      generalize (⟨(joinB T0).toArray⟩ : ByteArray) = A at *
      generalize (⟨(joinB T1).toArray⟩ : ByteArray) = B at *
      generalize (⟨(joinB (T0 ++ T1)).toArray⟩ : ByteArray) = C at *
      have hA1 := ext_size A 1 A.size
      have hB1 := ext_size B 1 B.size
      have ha0 := fun (w : World) => run_string_add_sum (P := Try.prog) w NN (A.extract 1 A.size) (by omega)
      have hps : (NN ++ A.extract 1 A.size).size ≤ 5000010 := by rw [app_size]; omega
      obtain ⟨P, hP, haa, hPs⟩ : ∃ P : ByteArray, NN ++ A.extract 1 A.size = P ∧ (∀ w : World, (Op.stringOp .add NN (A.extract 1 A.size)).run Try.prog w = .ok (.string P) w) ∧ P.size ≤ 5000010 := ⟨_, rfl, ha0, hps⟩
      rw [hP] at hj
      have hbb := fun (w : World) => run_string_add_sum (P := Try.prog) w P (B.extract 1 B.size) (by omega)
      rw [hj] at hbb
      obtain ⟨hs0a, hs0b⟩ := hs0
      obtain ⟨hs1a, hs1b⟩ := hs1
      clear hj ha0 hP hps hA1 hB1 hPs hns
      go_wp2_with fail
      refine (join_len a0 b0 off0 cap0 T0 20 _ _ HT0.out (HS0.out.below c1) H0.out).mono ?_
      rintro e w2 ⟨rfl, c2⟩
      have cc2 := bel_trans c1 c2
      clear c1 c2
      go_wp2_with fail
      refine (join_len a1 b1 off1 cap1 T1 20 _ _ HT1.out (HS1.out.below cc2) H1.out).mono ?_
      rintro e w3 ⟨rfl, c3⟩
      have cc3 := bel_trans cc2 c3
      clear cc2 c3
      have hsz3 := cc3.size
      go_wp2_with (first
        | (at_builtin; refine wpList_append_strs _ rfl (.const (.slice none 0 0)) (.tmp 34) 23 rfl w3.heap.size 9 i0 Try.underlying23 hi hz0 hz1 hz2 _ 0 [] rfl (World.ownsRow_nil _ _ _ _) a0 b0 off0 cap0 T0 20 HT0.out rfl (HS0.out.below cc3) N0.out (by omega) (Nat.le_refl _) ?_; intro v4 w4 o4 g4)
        | (at_builtin; refine wpList_append_strs _ rfl (.tmp 35) (.tmp 36) 23 rfl w3.heap.size 9 i0 Try.underlying23 hi hz0 hz1 hz2 _ _ _ rfl o4 a1 b1 off1 cap1 T1 20 HT1.out rfl (HS1.out.below (app_below cc3 g4)) N1.out (by omega) g4.size ?_; intro v5 w5 o5 g5))
      have cc5 : Below w.heap.size w w5 := app_below2 cc3 g4 o4 g5
      have o6 : w5.ownsRow w3.heap.size 9 1 v5 (T0 ++ T1).length ((T0 ++ T1).map Value.string) := by
        have h := o5
        rw [List.nil_append, ← List.map_append, Nat.zero_add] at h
        rw [List.length_append, HT0.out, HT1.out]
        exact h
      obtain ⟨ag, bg, cg, rfl, Sg⟩ := own_strs o6 (by rw [List.length_append]; have h1 := HLa.out; have h2 := HLb.out; omega) HSM.out
      clear o4 g4 o5 g5 o6 cc3 hsz3
      go_wp2_with fail
      refine (join_len ag bg 0 cg (T0 ++ T1) _ _ _ rfl Sg H2.out).mono ?_
      rintro e w6 ⟨rfl, c6⟩
      have cc6 := bel_trans cc5 c6
      clear cc5 c6 Sg HS0 HS1
      go_wp2
      refine wp_region_quiet_below (by kernel_rfl) (by kernel_rfl) ?_
      repeat (first | go_big_quiet_step (exact Calls.regrown_of (num_is (40) NN _ (by omega) (by omega) HNN.out)) | quiet_step (exact Calls.regrown_of (num_is (40) NN _ (by omega) (by omega) HNN.out)))
      refine wpQuiet_nil ?_
      intro _ hw'
      obtain ⟨⟨dq, osq⟩, hw''⟩ := hw'
      subst hw''
      go_wp2
      go_ret
      exact ⟨rfl, bel_trans cc6 (below_regrown w6 dq osq)⟩

theorem walk (a0 : Option Addr) (b0 off0 cap0 : Nat) (ss0 : List ByteArray) (a1 : Option Addr) (b1 off1 cap1 : Nat) (ss1 : List ByteArray) (w : World) (S0 : Strs w a0 b0 off0 ss0) (S1 : Strs w a1 b1 off1 ss1)
    (n0 : (a0 = none → cap0 = 0) ∧ ss0.length ≤ cap0 ∧ cap0 ≤ maxLen) (n1 : (a1 = none → cap1 = 0) ∧ ss1.length ≤ cap1 ∧ cap1 ≤ maxLen) :
    Calls Try.prog 5 #[.slice a0 ss0.length cap0, .slice a1 ss1.length cap1] w fun e w' => e = .returned (.bool true) ∧ Below w.heap.size w w' := by
  by_cases hl0 : ss0.length ≤ 20 <;> by_cases hl1 : ss1.length ≤ 20
  · exact walk_0 a0 b0 off0 cap0 _ ss0 a1 b1 off1 cap1 _ ss1 w S0 S1 n0 n1 hl0 rfl hl1 rfl
  · exact walk_1 a0 b0 off0 cap0 _ ss0 a1 b1 off1 cap1 _ (ss1.take 20) w S0 (strs_take S1 20) n0 n1 hl0 rfl (by omega) (by rw [List.length_take]; omega)
  · exact walk_2 a0 b0 off0 cap0 _ (ss0.take 20) a1 b1 off1 cap1 _ ss1 w (strs_take S0 20) S1 n0 n1 (by omega) (by rw [List.length_take]; omega) hl1 rfl
  · exact walk_3 a0 b0 off0 cap0 _ (ss0.take 20) a1 b1 off1 cap1 _ (ss1.take 20) w (strs_take S0 20) (strs_take S1 20) n0 n1 (by omega) (by rw [List.length_take]; omega) (by omega) (by rw [List.length_take]; omega)

set_option maxRecDepth 100000 in
theorem lifted (os : Os) (started : os.Started) (H : Type) (enc : TypeId × Value → H) :
    ReturnsInHanded {} Try.checked os 5 .any (Rows.wireJoinsSpec.pre6 enc Try.prog Try.f5 Rows.wireJoinsRow.domain false) (Rows.wireJoinsSpec.post enc Try.prog Try.f5 false true false false) := by
  refine returnsInHanded_of_change (C := Try.checked) own started (by kernel_rfl) Try.func5
    (ChangeSpec.witness6 (enc := enc) (C := Try.checked) false ⟨#[], #[.slice none 0 0, .slice none 0 0], []⟩ 8 (by kernel_rfl) (by kernel_rfl) (by kernel_rfl) (by kernel_rfl)) ?_
  intro W base args ds gs before hval0 hW hcnd _
  have hval : ∀ (j : Nat) t v, Try.f5.params[j]? = some t → args[j]? = some v → Value.okWide Try.prog W .any base t v := hval0
  have hW' := hW
  obtain ⟨p, q, hA0, hV, rfl, hfz, hnd⟩ := hW
  have hA : DataW.TrodAll enc Try.prog W 0 (fun _ => true) true Try.f5.params.toList args.toList ds p := hA0
  rw [Try.params5] at hA hval
  obtain ⟨v0, vs0, d0, ds0, p0, q0, hargs, rfl, rfl, h0, r0⟩ := trodAll_cons hA
  obtain ⟨v1, vs1, d1, ds1, p1, q1, rfl, rfl, rfl, h1, r1⟩ := trodAll_cons r0
  obtain ⟨rfl, rfl, rfl⟩ := trodAll_nil r1
  obtain rfl : args = #[v0, v1] := by cases args; simp_all
  obtain ⟨rfl, rfl⟩ := trodVars_none hV
  obtain ⟨a0, len0, cap0, rfl⟩ := okWide_slice Try.underlying23 (hval 0 23 v0 rfl rfl)
  have k0 := h0
  have lt0 : ∀ x ∈ p0, x.block < W.heap.size := by obtain ⟨m, hm⟩ := k0; exact DataW.trod_lt m _ _ _ hm
  obtain ⟨b0, off0, ss0, rfl, w0, n0⟩ := open_strs0 Try.underlying23 Try.underlying9 (by kernel_rfl) h0
  obtain ⟨a1, len1, cap1, rfl⟩ := okWide_slice Try.underlying23 (hval 1 23 v1 rfl rfl)
  have k1 := h1
  have lt1 : ∀ x ∈ p1, x.block < W.heap.size := by obtain ⟨m, hm⟩ := k1; exact DataW.trod_lt m _ _ _ hm
  obtain ⟨b1, off1, ss1, rfl, w1, n1⟩ := open_strs0 Try.underlying23 Try.underlying9 (by kernel_rfl) h1
  clear hA0 hval0
  refine (walk a0 b0 off0 cap0 ss0 a1 b1 off1 cap1 ss1 W w0 w1 n0 n1).mono fun e W' ⟨he, bel⟩ => ?_
  subst he
  exact ⟨_, rfl, _, _, _, [], _, [], hW', trodAll_mk1 (shut_bool Try.underlying4 _), (trodAll_cons_mk (Below.trod laidOut (by kernel_rfl) (of_decide_eq_true (by kernel_rfl)) k0 bel lt0) (trodAll_cons_mk (Below.trod laidOut (by kernel_rfl) (of_decide_eq_true (by kernel_rfl)) k1 bel lt1) trodAll_mk0)), rfl, bel.frame _, fun h => by cases h⟩

theorem over : Rows.wireJoinsRow.holds Try.pinned (OpenSpec.ofChange Rows.wireJoinsSpec) :=
  OpenClaim.holds_of_wide 5 Try.f5 rfl rfl rfl rfl rfl rfl rfl ⟨rfl, rfl, rfl, rfl, rfl⟩ rfl rfl rfl rfl rfl (by kernel_rfl) Try.func5 (by kernel_rfl)
    (of_decide_eq_true (by kernel_rfl)) (by unfold Func.isWrapper; first | (rw [if_pos (by decide +kernel)]; kernel_rfl) | (rw [if_neg (by decide +kernel)]; exact ⟨rfl, rfl⟩))
    (fun os started H enc _ => lifted os started H enc)
end Go.Proofs.Ytoppdclmahelmab.wireJoins

namespace Go.Proofs.Ytoppdclmahelmab
/-- The statement. -/
theorem wireJoins_holds : Rows.WireJoinsSaid := wireJoins.over
#print axioms wireJoins_holds
end Go.Proofs.Ytoppdclmahelmab
