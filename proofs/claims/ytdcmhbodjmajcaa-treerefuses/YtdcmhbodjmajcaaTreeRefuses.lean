/- TreeRefuses: for every list of nodes, every number and every string: the statement's function returns true; nothing that was there is changed. No condition. -/
import Derived.Test.YtdcmhbodjmajcaaTreeL2
import Derived.Test.YtdcmhbodjmajcaaTreeT3
import Derived.Test.YtdcmhbodjmajcaaTreeOpen
namespace Go.Proofs.Ytdcmhbodjmajcaa.treeRefuses
open Go.ChangeShapes Go.WideShapes Go.ChangeAt Go.RowKit
open Go.ChangeMaps (open_string shut_string)
set_option linter.unusedVariables false

theorem own : ownKnob Try.prog.godebug = none := by kernel_rfl

/-- What is added to texts. -/
theorem add_is (a b : ByteArray) (h : a.size + b.size ≤ 4611686018427387904) : ∃ Q : ByteArray, a ++ b = Q ∧ (∀ w : World, (Op.stringOp .add a b).run Try.prog w = .ok (.string Q) w) ∧ Q.size = a.size + b.size :=
  ⟨a ++ b, rfl, fun w => run_string_add_sum w a b (by omega), ByteArray.size_append⟩

def pX : ByteArray := ⟨#[47, 120]⟩
def sY : ByteArray := ⟨#[47, 121]⟩

theorem kid_y {P : ByteArray} (hr : P ≠ rootP) : kid P nY = P ++ sY := by
  rw [kid_not hr]
  apply ba_inj
  rw [app_data, app_data, app_data]
  simp [nY, sY]

/-- Nothing is added to what is not there. -/
theorem no_deeper {xs : NS} {P : ByteArray} (hP : splitE P = 0) (hr : P ≠ rootP) (hn : at? xs P = none) {E : Int} (h : AddE xs (fileN (P ++ sY)) E) : E ≠ 0 := by
  intro e
  subst e
  cases h with
  | par e h1 h2 h3 h4 h5 h6 => exact absurd rfl h6
  | ok h1 h2 h3 h4 h5 h6 =>
    have hs : splitE (kid P nY) = 0 := by rw [kid_y hr]; exact fits_path h2
    have hp := (kid_names hP (by decide) hs).2
    rw [kid_y hr] at hp
    have h5' : dirE xs (parD (P ++ sY)) = 0 := h5
    rw [hp] at h5'
    obtain ⟨z, hz, hzp, _⟩ := dirE_ex h5'
    exact at_none hn z hz hzp

/-- What is asked of the place and the name. -/
structure Ask (w : World) (b off n : Nat) (xs : NS) (x : NR) (Q kn : Nat) (name P : ByteArray) : Prop where
  right : Right xs
  nl : NL w (some ⟨b, off, none⟩) n xs
  few : n ≤ 60
  len : xs.length = n
  lt : Q < n
  rem : (kn : Int).tmod (n : Int) = (Q : Int)
  rem2 : (kn : Int) % (n : Int) = (Q : Int)
  c0 : w.cell? ⟨b, off + Q * 5, none⟩ = some (.string x.1.path)
  c1 : w.cell? ⟨b, off + Q * 5 + 1, none⟩ = some (.bool x.1.dir)
  c2 : w.cell? ⟨b, off + Q * 5 + 2, none⟩ = some (.int .i64 x.1.quota)
  c3 : w.cell? ⟨b, off + Q * 5 + 3, none⟩ = some (.slice x.2.a x.2.n x.2.c)
  c4 : w.cell? ⟨b, off + Q * 5 + 4, none⟩ = some (.int .i64 x.1.wr)
  path : splitE x.1.path = 0
  short : x.1.path.size ≤ 120
  dirE : dirE xs x.1.path = if x.1.dir then 0 else 7
  there : at? xs x.1.path ≠ none
  small : name.size ≤ 140737488355328
  kid : kid x.1.path name = P

theorem Ask.exist {w : World} {b off n : Nat} {xs : NS} {x : NR} {Q kn : Nat} {name P : ByteArray} (h : Ask w b off n xs x Q kn name P) (hr : x.1.path ≠ rootP) : AddE xs (dirN x.1.path) 6 := by
  refine .exist h.right ?_ hr h.there
  unfold fitsB
  show (pathB x.1.path && dirB (dirN x.1.path)) = true
  unfold pathB dirB dirN
  rw [h.path]; simp

theorem Ask.par {w : World} {b off n : Nat} {xs : NS} {x : NR} {Q kn : Nat} {name P : ByteArray} (h : Ask w b off n xs x Q kn name P) (hn : nameB name = true) (hf : fitsB (fileN P) = true) : parD P = x.1.path ∧ splitE P = 0 ∧ P ≠ rootP := by
  have hs : splitE P = 0 := fits_path hf
  rw [← h.kid] at hs ⊢
  exact ⟨(kid_names h.path hn hs).2, hs, kid_ne_root h.path hn⟩

set_option maxRecDepth 100000 in
set_option maxHeartbeats 2000000 in
theorem core_11_noname {w : World} {b off n c : Nat} {xs : NS} {x : NR} {Q kn : Nat} {name P : ByteArray} (A : Ask w b off n xs x Q kn name P) (k : Int) (hk : -9223372036854775808 ≤ k ∧ k ≤ 9223372036854775807) (hneg : k < 0) (hkk : -(k + 1) = (kn : Int)) (hroot : x.1.path = rootP) (hnm : nameB name = false) :
    Calls Try.prog 8 #[.slice (some ⟨b, off, none⟩) n c, .int .i64 k, .string name] w fun e w' => e = .returned (.bool true) ∧ Below w.heap.size w w' := by
  have CR : Hid (∀ W, Below w.heap.size w W → Calls Try.prog 15 #[.slice (some ⟨b, off, none⟩) n c] W fun e w' => e = .returned (.bool true) ∧ Below W.heap.size W w') := fun W hb => right_val (A.nl.below hb) true ⟨fun _ => A.right, fun _ => rfl⟩
  have CF : Hid (∀ W p I, Below w.heap.size w W → findI xs p = I → Calls Try.prog 17 #[.slice (some ⟨b, off, none⟩) n c, .string p] W fun e w' => e = .returned (.int .i64 I) ∧ Below W.heap.size W w') := fun W p I hb hI => find_val (A.nl.below hb) p I hI
  have CA : Hid (∀ W y E, Below w.heap.size w W → NdOk W (y, noS) → AddE xs y E → Calls Try.prog 20 #[.slice (some ⟨b, off, none⟩) n c, ndV (y, noS)] W fun e w' => TwoR W.heap.size (addL xs y E) E e w' ∧ Below W.heap.size W w') := fun W y E hb hy hE => add_val (A.nl.below hb) (y, noS) hy E hE
  have HA : Hid (Ask w b off n xs x Q kn name P) := A
  have c0 := A.c0
  have c1 := A.c1
  have c2 := A.c2
  have c3 := A.c3
  have c4 := A.c4
  have hr1 := A.rem
  have hr2 := A.rem2
  have hlt := A.lt
  have hfew := A.few
  have hshort := A.short
  have hsmall := A.small
  obtain ⟨Q1, hQ1, hq1, hz1⟩ := add_is x.1.path ⟨#[47]⟩ (by show x.1.path.size + 1 ≤ _; omega)
  have hz1' : Q1.size ≤ 121 := by rw [hz1]; show x.1.path.size + 1 ≤ 121; omega
  obtain ⟨P0, hP0, hp0, hz0⟩ := add_is Q1 name (by omega)
  obtain ⟨P2, hP2, hp2, hz2⟩ := add_is ⟨#[47]⟩ name (by show 1 + name.size ≤ _; omega)
  have hPP : P = P2 := by rw [← A.kid, hroot, kid_root, hP2]
  have hPz : P.size ≤ 140737488355329 := by rw [hPP, hz2]; show 1 + name.size ≤ _; omega
  rw [← hPP] at hp2
  have e47 : (x.1.path.toList == [47]) = true := by rw [root_eq, decide_eq_true hroot]
  have e47b := e47
  obtain ⟨P3, hP3, hp3, hz3⟩ := add_is P ⟨#[47, 121]⟩ (by show P.size + 2 ≤ _; omega)
  have HPM : Hid (P.size ≤ maxLen) := by show P.size ≤ maxLen; unfold maxLen; omega
  have HP3M : Hid (P3.size ≤ maxLen) := by show P3.size ≤ maxLen; rw [hz3]; show P.size + 2 ≤ maxLen; unfold maxLen; omega
  have HNM : Hid (name.size ≤ maxLen) := by show name.size ≤ maxLen; unfold maxLen; omega
  have HQM : Hid (x.1.path.size ≤ maxLen) := by show x.1.path.size ≤ maxLen; unfold maxLen; omega
  have HN1 : Hid _ := hnm
  obtain ⟨⟨q, d, qu, bs, wr⟩, ⟨sa, sn, sc⟩⟩ := x
  simp only at *
  have hst := run_store_str
  have hst2 : ∀ (w : World) (a : Addr) (x : Option Addr) (n c : Nat) (m : Mode), (store a (.slice x n c) m).run Try.prog w = stored Try.prog w a (.slice x n c) m := fun w a x n c m => run_store_any w a _ m rfl
  have HC0 : Hid _ := c0
  have HC1 : Hid _ := c1
  have HC2 : Hid _ := c2
  have HC3 : Hid _ := c3
  have HC4 : Hid _ := c4
  clear A hQ1 hz1 hP0 hz0 hP2 hz2 hPP hP3 hz3 hnm hroot c0 c1 c2 c3 c4 hshort hsmall hz1' hPz
  go_enter Try.func8, Try.ntmps8
  go_wp2_with fail
  refine (examples_val _).mono ?_
  rintro e w1 ⟨rfl, k1⟩
  have K1 : Hid (Below w.heap.size w w1) := k1
  clear k1
  go_wp2_with fail
  refine (CR.out _ K1.out).mono ?_
  rintro e w2 ⟨rfl, k2⟩
  have K2 : Hid (Below w.heap.size w w2) := bel_tr K1.out k2
  have y0 := bel_cell K2.out HC0.out
  have y1 := bel_cell K2.out HC1.out
  have y2 := bel_cell K2.out HC2.out
  have y3 := bel_cell K2.out HC3.out
  have y4 := bel_cell K2.out HC4.out
  clear k2 K1
  go_wp2_with fail
  refine (name_val name false _ HNM.out HN1.out).mono ?_
  rintro e w4 ⟨rfl, hw4⟩
  have K4 : Hid (Below w.heap.size w w4) := by rw [hw4]; exact bel_tr K2.out (bel_al _ _)
  have V1 : Hid (w4.cell? ⟨w2.heap.size, 1, none⟩ = some (.bool d)) := by show _ = _; rw [hw4]; exact World.cell?_alloc_new w2 _ _ 1
  clear hw4 y0 y1 y2 y3 y4
  go_wp2
  go_ret
  exact ⟨rfl, K4.out⟩

set_option maxRecDepth 100000 in
set_option maxHeartbeats 2000000 in
theorem core_11_nofit {w : World} {b off n c : Nat} {xs : NS} {x : NR} {Q kn : Nat} {name P : ByteArray} (A : Ask w b off n xs x Q kn name P) (k : Int) (hk : -9223372036854775808 ≤ k ∧ k ≤ 9223372036854775807) (hneg : k < 0) (hkk : -(k + 1) = (kn : Int)) (hroot : x.1.path = rootP) (hnm : nameB name = true) (hft : fitsB (fileN P) = false) :
    Calls Try.prog 8 #[.slice (some ⟨b, off, none⟩) n c, .int .i64 k, .string name] w fun e w' => e = .returned (.bool true) ∧ Below w.heap.size w w' := by
  have CR : Hid (∀ W, Below w.heap.size w W → Calls Try.prog 15 #[.slice (some ⟨b, off, none⟩) n c] W fun e w' => e = .returned (.bool true) ∧ Below W.heap.size W w') := fun W hb => right_val (A.nl.below hb) true ⟨fun _ => A.right, fun _ => rfl⟩
  have CF : Hid (∀ W p I, Below w.heap.size w W → findI xs p = I → Calls Try.prog 17 #[.slice (some ⟨b, off, none⟩) n c, .string p] W fun e w' => e = .returned (.int .i64 I) ∧ Below W.heap.size W w') := fun W p I hb hI => find_val (A.nl.below hb) p I hI
  have CA : Hid (∀ W y E, Below w.heap.size w W → NdOk W (y, noS) → AddE xs y E → Calls Try.prog 20 #[.slice (some ⟨b, off, none⟩) n c, ndV (y, noS)] W fun e w' => TwoR W.heap.size (addL xs y E) E e w' ∧ Below W.heap.size W w') := fun W y E hb hy hE => add_val (A.nl.below hb) (y, noS) hy E hE
  have HA : Hid (Ask w b off n xs x Q kn name P) := A
  have c0 := A.c0
  have c1 := A.c1
  have c2 := A.c2
  have c3 := A.c3
  have c4 := A.c4
  have hr1 := A.rem
  have hr2 := A.rem2
  have hlt := A.lt
  have hfew := A.few
  have hshort := A.short
  have hsmall := A.small
  obtain ⟨Q1, hQ1, hq1, hz1⟩ := add_is x.1.path ⟨#[47]⟩ (by show x.1.path.size + 1 ≤ _; omega)
  have hz1' : Q1.size ≤ 121 := by rw [hz1]; show x.1.path.size + 1 ≤ 121; omega
  obtain ⟨P0, hP0, hp0, hz0⟩ := add_is Q1 name (by omega)
  obtain ⟨P2, hP2, hp2, hz2⟩ := add_is ⟨#[47]⟩ name (by show 1 + name.size ≤ _; omega)
  have hPP : P = P2 := by rw [← A.kid, hroot, kid_root, hP2]
  have hPz : P.size ≤ 140737488355329 := by rw [hPP, hz2]; show 1 + name.size ≤ _; omega
  rw [← hPP] at hp2
  have e47 : (x.1.path.toList == [47]) = true := by rw [root_eq, decide_eq_true hroot]
  have e47b := e47
  obtain ⟨P3, hP3, hp3, hz3⟩ := add_is P ⟨#[47, 121]⟩ (by show P.size + 2 ≤ _; omega)
  have HPM : Hid (P.size ≤ maxLen) := by show P.size ≤ maxLen; unfold maxLen; omega
  have HP3M : Hid (P3.size ≤ maxLen) := by show P3.size ≤ maxLen; rw [hz3]; show P.size + 2 ≤ maxLen; unfold maxLen; omega
  have HNM : Hid (name.size ≤ maxLen) := by show name.size ≤ maxLen; unfold maxLen; omega
  have HQM : Hid (x.1.path.size ≤ maxLen) := by show x.1.path.size ≤ maxLen; unfold maxLen; omega
  have HN1 : Hid _ := hnm
  have HF1 : Hid _ := hft
  obtain ⟨⟨q, d, qu, bs, wr⟩, ⟨sa, sn, sc⟩⟩ := x
  simp only at *
  have hst := run_store_str
  have hst2 : ∀ (w : World) (a : Addr) (x : Option Addr) (n c : Nat) (m : Mode), (store a (.slice x n c) m).run Try.prog w = stored Try.prog w a (.slice x n c) m := fun w a x n c m => run_store_any w a _ m rfl
  have HC0 : Hid _ := c0
  have HC1 : Hid _ := c1
  have HC2 : Hid _ := c2
  have HC3 : Hid _ := c3
  have HC4 : Hid _ := c4
  clear A hQ1 hz1 hP0 hz0 hP2 hz2 hPP hP3 hz3 hnm hroot hft c0 c1 c2 c3 c4 hshort hsmall hz1' hPz
  go_enter Try.func8, Try.ntmps8
  go_wp2_with fail
  refine (examples_val _).mono ?_
  rintro e w1 ⟨rfl, k1⟩
  have K1 : Hid (Below w.heap.size w w1) := k1
  clear k1
  go_wp2_with fail
  refine (CR.out _ K1.out).mono ?_
  rintro e w2 ⟨rfl, k2⟩
  have K2 : Hid (Below w.heap.size w w2) := bel_tr K1.out k2
  have y0 := bel_cell K2.out HC0.out
  have y1 := bel_cell K2.out HC1.out
  have y2 := bel_cell K2.out HC2.out
  have y3 := bel_cell K2.out HC3.out
  have y4 := bel_cell K2.out HC4.out
  clear k2 K1
  go_wp2_with fail
  refine (name_val name true _ HNM.out HN1.out).mono ?_
  rintro e w4 ⟨rfl, hw4⟩
  have K4 : Hid (Below w.heap.size w w4) := by rw [hw4]; exact bel_tr K2.out (bel_al _ _)
  have V1 : Hid (w4.cell? ⟨w2.heap.size, 1, none⟩ = some (.bool d)) := by show _ = _; rw [hw4]; exact World.cell?_alloc_new w2 _ _ 1
  clear hw4 y0 y1 y2 y3 y4
  go_wp2_with fail
  refine (file_agg P _).mono ?_
  rintro e w6 ⟨rfl, k6⟩
  have K6 : Hid (Below w.heap.size w w6) := bel_tr K4.out k6
  have B46 : Hid (Below w4.heap.size w4 w6) := k6
  clear k6
  go_wp2_with fail
  refine (fits_val (fileN P, noS) false _ (noS_ok _ _ rfl HPM.out) HF1.out).mono ?_
  rintro e w7 ⟨rfl, k7⟩
  have K7 : Hid (Below w.heap.size w w7) := bel_tr K6.out k7
  have B47 : Hid (Below w4.heap.size w4 w7) := bel_tr B46.out k7
  clear k7
  go_wp2
  go_ret
  exact ⟨rfl, K7.out⟩

set_option maxRecDepth 100000 in
set_option maxHeartbeats 2000000 in
theorem core_11_found {w : World} {b off n c : Nat} {xs : NS} {x : NR} {Q kn : Nat} {name P : ByteArray} (A : Ask w b off n xs x Q kn name P) (k : Int) (hk : -9223372036854775808 ≤ k ∧ k ≤ 9223372036854775807) (hneg : k < 0) (hkk : -(k + 1) = (kn : Int)) (hroot : x.1.path = rootP) (hnm : nameB name = true) (hft : fitsB (fileN P) = true) (hat : at? xs P ≠ none) :
    Calls Try.prog 8 #[.slice (some ⟨b, off, none⟩) n c, .int .i64 k, .string name] w fun e w' => e = .returned (.bool true) ∧ Below w.heap.size w w' := by
  have CR : Hid (∀ W, Below w.heap.size w W → Calls Try.prog 15 #[.slice (some ⟨b, off, none⟩) n c] W fun e w' => e = .returned (.bool true) ∧ Below W.heap.size W w') := fun W hb => right_val (A.nl.below hb) true ⟨fun _ => A.right, fun _ => rfl⟩
  have CF : Hid (∀ W p I, Below w.heap.size w W → findI xs p = I → Calls Try.prog 17 #[.slice (some ⟨b, off, none⟩) n c, .string p] W fun e w' => e = .returned (.int .i64 I) ∧ Below W.heap.size W w') := fun W p I hb hI => find_val (A.nl.below hb) p I hI
  have CA : Hid (∀ W y E, Below w.heap.size w W → NdOk W (y, noS) → AddE xs y E → Calls Try.prog 20 #[.slice (some ⟨b, off, none⟩) n c, ndV (y, noS)] W fun e w' => TwoR W.heap.size (addL xs y E) E e w' ∧ Below W.heap.size W w') := fun W y E hb hy hE => add_val (A.nl.below hb) (y, noS) hy E hE
  have HA : Hid (Ask w b off n xs x Q kn name P) := A
  have c0 := A.c0
  have c1 := A.c1
  have c2 := A.c2
  have c3 := A.c3
  have c4 := A.c4
  have hr1 := A.rem
  have hr2 := A.rem2
  have hlt := A.lt
  have hfew := A.few
  have hshort := A.short
  have hsmall := A.small
  obtain ⟨Q1, hQ1, hq1, hz1⟩ := add_is x.1.path ⟨#[47]⟩ (by show x.1.path.size + 1 ≤ _; omega)
  have hz1' : Q1.size ≤ 121 := by rw [hz1]; show x.1.path.size + 1 ≤ 121; omega
  obtain ⟨P0, hP0, hp0, hz0⟩ := add_is Q1 name (by omega)
  obtain ⟨P2, hP2, hp2, hz2⟩ := add_is ⟨#[47]⟩ name (by show 1 + name.size ≤ _; omega)
  have hPP : P = P2 := by rw [← A.kid, hroot, kid_root, hP2]
  have hPz : P.size ≤ 140737488355329 := by rw [hPP, hz2]; show 1 + name.size ≤ _; omega
  rw [← hPP] at hp2
  have e47 : (x.1.path.toList == [47]) = true := by rw [root_eq, decide_eq_true hroot]
  have e47b := e47
  obtain ⟨P3, hP3, hp3, hz3⟩ := add_is P ⟨#[47, 121]⟩ (by show P.size + 2 ≤ _; omega)
  have HPM : Hid (P.size ≤ maxLen) := by show P.size ≤ maxLen; unfold maxLen; omega
  have HP3M : Hid (P3.size ≤ maxLen) := by show P3.size ≤ maxLen; rw [hz3]; show P.size + 2 ≤ maxLen; unfold maxLen; omega
  have HNM : Hid (name.size ≤ maxLen) := by show name.size ≤ maxLen; unfold maxLen; omega
  have HQM : Hid (x.1.path.size ≤ maxLen) := by show x.1.path.size ≤ maxLen; unfold maxLen; omega
  have HN1 : Hid _ := hnm
  have HF1 : Hid _ := hft
  obtain ⟨I, hI, _⟩ := find_pos hat
  have HI : Hid _ := hI
  obtain ⟨⟨q, d, qu, bs, wr⟩, ⟨sa, sn, sc⟩⟩ := x
  simp only at *
  have hst := run_store_str
  have hst2 : ∀ (w : World) (a : Addr) (x : Option Addr) (n c : Nat) (m : Mode), (store a (.slice x n c) m).run Try.prog w = stored Try.prog w a (.slice x n c) m := fun w a x n c m => run_store_any w a _ m rfl
  have HC0 : Hid _ := c0
  have HC1 : Hid _ := c1
  have HC2 : Hid _ := c2
  have HC3 : Hid _ := c3
  have HC4 : Hid _ := c4
  clear A hQ1 hz1 hP0 hz0 hP2 hz2 hPP hP3 hz3 hnm hroot hft hat hI c0 c1 c2 c3 c4 hshort hsmall hz1' hPz
  go_enter Try.func8, Try.ntmps8
  go_wp2_with fail
  refine (examples_val _).mono ?_
  rintro e w1 ⟨rfl, k1⟩
  have K1 : Hid (Below w.heap.size w w1) := k1
  clear k1
  go_wp2_with fail
  refine (CR.out _ K1.out).mono ?_
  rintro e w2 ⟨rfl, k2⟩
  have K2 : Hid (Below w.heap.size w w2) := bel_tr K1.out k2
  have y0 := bel_cell K2.out HC0.out
  have y1 := bel_cell K2.out HC1.out
  have y2 := bel_cell K2.out HC2.out
  have y3 := bel_cell K2.out HC3.out
  have y4 := bel_cell K2.out HC4.out
  clear k2 K1
  go_wp2_with fail
  refine (name_val name true _ HNM.out HN1.out).mono ?_
  rintro e w4 ⟨rfl, hw4⟩
  have K4 : Hid (Below w.heap.size w w4) := by rw [hw4]; exact bel_tr K2.out (bel_al _ _)
  have V1 : Hid (w4.cell? ⟨w2.heap.size, 1, none⟩ = some (.bool d)) := by show _ = _; rw [hw4]; exact World.cell?_alloc_new w2 _ _ 1
  clear hw4 y0 y1 y2 y3 y4
  go_wp2_with fail
  refine (file_agg P _).mono ?_
  rintro e w6 ⟨rfl, k6⟩
  have K6 : Hid (Below w.heap.size w w6) := bel_tr K4.out k6
  have B46 : Hid (Below w4.heap.size w4 w6) := k6
  clear k6
  go_wp2_with fail
  refine (fits_val (fileN P, noS) true _ (noS_ok _ _ rfl HPM.out) HF1.out).mono ?_
  rintro e w7 ⟨rfl, k7⟩
  have K7 : Hid (Below w.heap.size w w7) := bel_tr K6.out k7
  have B47 : Hid (Below w4.heap.size w4 w7) := bel_tr B46.out k7
  clear k7
  go_wp2_with fail
  refine (CF.out _ P _ K7.out HI.out).mono ?_
  rintro e w8 ⟨rfl, k8⟩
  have K8 : Hid (Below w.heap.size w w8) := bel_tr K7.out k8
  have B48 : Hid (Below w4.heap.size w4 w8) := bel_tr B47.out k8
  clear k8
  go_wp2
  go_ret
  exact ⟨rfl, K8.out⟩

set_option maxRecDepth 100000 in
set_option maxHeartbeats 2000000 in
theorem core_11_file {w : World} {b off n c : Nat} {xs : NS} {x : NR} {Q kn : Nat} {name P : ByteArray} (A : Ask w b off n xs x Q kn name P) (k : Int) (hk : -9223372036854775808 ≤ k ∧ k ≤ 9223372036854775807) (hneg : k < 0) (hkk : -(k + 1) = (kn : Int)) (hroot : x.1.path = rootP) (hnm : nameB name = true) (hft : fitsB (fileN P) = true) (hat : at? xs P = none) (hdr : x.1.dir = false) :
    Calls Try.prog 8 #[.slice (some ⟨b, off, none⟩) n c, .int .i64 k, .string name] w fun e w' => e = .returned (.bool true) ∧ Below w.heap.size w w' := by
  have CR : Hid (∀ W, Below w.heap.size w W → Calls Try.prog 15 #[.slice (some ⟨b, off, none⟩) n c] W fun e w' => e = .returned (.bool true) ∧ Below W.heap.size W w') := fun W hb => right_val (A.nl.below hb) true ⟨fun _ => A.right, fun _ => rfl⟩
  have CF : Hid (∀ W p I, Below w.heap.size w W → findI xs p = I → Calls Try.prog 17 #[.slice (some ⟨b, off, none⟩) n c, .string p] W fun e w' => e = .returned (.int .i64 I) ∧ Below W.heap.size W w') := fun W p I hb hI => find_val (A.nl.below hb) p I hI
  have CA : Hid (∀ W y E, Below w.heap.size w W → NdOk W (y, noS) → AddE xs y E → Calls Try.prog 20 #[.slice (some ⟨b, off, none⟩) n c, ndV (y, noS)] W fun e w' => TwoR W.heap.size (addL xs y E) E e w' ∧ Below W.heap.size W w') := fun W y E hb hy hE => add_val (A.nl.below hb) (y, noS) hy E hE
  have HA : Hid (Ask w b off n xs x Q kn name P) := A
  have c0 := A.c0
  have c1 := A.c1
  have c2 := A.c2
  have c3 := A.c3
  have c4 := A.c4
  have hr1 := A.rem
  have hr2 := A.rem2
  have hlt := A.lt
  have hfew := A.few
  have hshort := A.short
  have hsmall := A.small
  obtain ⟨Q1, hQ1, hq1, hz1⟩ := add_is x.1.path ⟨#[47]⟩ (by show x.1.path.size + 1 ≤ _; omega)
  have hz1' : Q1.size ≤ 121 := by rw [hz1]; show x.1.path.size + 1 ≤ 121; omega
  obtain ⟨P0, hP0, hp0, hz0⟩ := add_is Q1 name (by omega)
  obtain ⟨P2, hP2, hp2, hz2⟩ := add_is ⟨#[47]⟩ name (by show 1 + name.size ≤ _; omega)
  have hPP : P = P2 := by rw [← A.kid, hroot, kid_root, hP2]
  have hPz : P.size ≤ 140737488355329 := by rw [hPP, hz2]; show 1 + name.size ≤ _; omega
  rw [← hPP] at hp2
  have e47 : (x.1.path.toList == [47]) = true := by rw [root_eq, decide_eq_true hroot]
  have e47b := e47
  obtain ⟨P3, hP3, hp3, hz3⟩ := add_is P ⟨#[47, 121]⟩ (by show P.size + 2 ≤ _; omega)
  have HPM : Hid (P.size ≤ maxLen) := by show P.size ≤ maxLen; unfold maxLen; omega
  have HP3M : Hid (P3.size ≤ maxLen) := by show P3.size ≤ maxLen; rw [hz3]; show P.size + 2 ≤ maxLen; unfold maxLen; omega
  have HNM : Hid (name.size ≤ maxLen) := by show name.size ≤ maxLen; unfold maxLen; omega
  have HQM : Hid (x.1.path.size ≤ maxLen) := by show x.1.path.size ≤ maxLen; unfold maxLen; omega
  have HN1 : Hid _ := hnm
  have HF1 : Hid _ := hft
  have HI : Hid (findI xs P = -1) := find_neg hat
  obtain ⟨g1, g2, g3⟩ := A.par hnm hft
  obtain ⟨E2, hE2⟩ := addE_any xs (fileN P3)
  have hE20 : E2 ≠ 0 := no_deeper g2 g3 hat (by rw [show P ++ sY = P3 from hP3]; exact hE2)
  have HE2 : Hid (AddE xs (fileN P3) E2) := hE2
  have hE2b : (E2 != 0) = true := by simpa using hE20
  have HE1 : Hid (AddE xs (fileN P) 7) := .par 7 A.right hft g3 hat (by show dirE xs (parD P) = _; rw [g1, A.dirE, hdr]; rfl) (by decide)
  obtain ⟨⟨q, d, qu, bs, wr⟩, ⟨sa, sn, sc⟩⟩ := x
  simp only at *
  subst hdr
  have hst := run_store_str
  have hst2 : ∀ (w : World) (a : Addr) (x : Option Addr) (n c : Nat) (m : Mode), (store a (.slice x n c) m).run Try.prog w = stored Try.prog w a (.slice x n c) m := fun w a x n c m => run_store_any w a _ m rfl
  have HC0 : Hid _ := c0
  have HC1 : Hid _ := c1
  have HC2 : Hid _ := c2
  have HC3 : Hid _ := c3
  have HC4 : Hid _ := c4
  clear A hQ1 hz1 hP0 hz0 hP2 hz2 hPP hP3 hz3 hnm hroot hft hat g1 g2 g3 hE2 hE20 c0 c1 c2 c3 c4 hshort hsmall hz1' hPz
  go_enter Try.func8, Try.ntmps8
  go_wp2_with fail
  refine (examples_val _).mono ?_
  rintro e w1 ⟨rfl, k1⟩
  have K1 : Hid (Below w.heap.size w w1) := k1
  clear k1
  go_wp2_with fail
  refine (CR.out _ K1.out).mono ?_
  rintro e w2 ⟨rfl, k2⟩
  have K2 : Hid (Below w.heap.size w w2) := bel_tr K1.out k2
  have y0 := bel_cell K2.out HC0.out
  have y1 := bel_cell K2.out HC1.out
  have y2 := bel_cell K2.out HC2.out
  have y3 := bel_cell K2.out HC3.out
  have y4 := bel_cell K2.out HC4.out
  clear k2 K1
  go_wp2_with fail
  refine (name_val name true _ HNM.out HN1.out).mono ?_
  rintro e w4 ⟨rfl, hw4⟩
  have K4 : Hid (Below w.heap.size w w4) := by rw [hw4]; exact bel_tr K2.out (bel_al _ _)
  have V1 : Hid (w4.cell? ⟨w2.heap.size, 1, none⟩ = some (.bool false)) := by show _ = _; rw [hw4]; exact World.cell?_alloc_new w2 _ _ 1
  clear hw4 y0 y1 y2 y3 y4
  go_wp2_with fail
  refine (file_agg P _).mono ?_
  rintro e w6 ⟨rfl, k6⟩
  have K6 : Hid (Below w.heap.size w w6) := bel_tr K4.out k6
  have B46 : Hid (Below w4.heap.size w4 w6) := k6
  clear k6
  go_wp2_with fail
  refine (fits_val (fileN P, noS) true _ (noS_ok _ _ rfl HPM.out) HF1.out).mono ?_
  rintro e w7 ⟨rfl, k7⟩
  have K7 : Hid (Below w.heap.size w w7) := bel_tr K6.out k7
  have B47 : Hid (Below w4.heap.size w4 w7) := bel_tr B46.out k7
  clear k7
  go_wp2_with fail
  refine (CF.out _ P _ K7.out HI.out).mono ?_
  rintro e w8 ⟨rfl, k8⟩
  have K8 : Hid (Below w.heap.size w w8) := bel_tr K7.out k8
  have B48 : Hid (Below w4.heap.size w4 w8) := bel_tr B47.out k8
  clear k8
  go_wp2_with fail
  refine (file_agg P _).mono ?_
  rintro e w9 ⟨rfl, k9⟩
  have K9 : Hid (Below w.heap.size w w9) := bel_tr K8.out k9
  have B49 : Hid (Below w4.heap.size w4 w9) := bel_tr B48.out k9
  clear k9
  go_wp2_with fail
  refine (CA.out _ (fileN P) 7 K9.out (noS_ok _ _ rfl HPM.out) HE1.out).mono ?_
  rintro e wa ⟨⟨aa, na, ca, rfl, hXa⟩, ka⟩
  have Ka : Hid (Below w.heap.size w wa) := bel_tr K9.out ka
  have B4a : Hid (Below w4.heap.size w4 wa) := bel_tr B49.out ka
  clear ka hXa
  go_wp2_with fail
  refine (file_agg P3 _).mono ?_
  rintro e wb ⟨rfl, kb⟩
  have Kb : Hid (Below w.heap.size w wb) := bel_tr Ka.out kb
  have B4b : Hid (Below w4.heap.size w4 wb) := bel_tr B4a.out kb
  have Bab : Hid (Below wa.heap.size wa wb) := kb
  clear kb
  go_wp2_with fail
  refine (CA.out _ (fileN P3) E2 Kb.out (noS_ok _ _ rfl HP3M.out) HE2.out).mono ?_
  rintro e wc ⟨⟨ac, nc, cc, rfl, hXc⟩, kc⟩
  have Kc : Hid (Below w.heap.size w wc) := bel_tr Kb.out kc
  have Bac : Hid (Below wa.heap.size wa wc) := bel_tr Bab.out kc
  have v1 := bel_cell (bel_tr B4b.out kc) V1.out
  clear kc hXc
  go_wp2
  go_ret
  exact ⟨rfl, Kc.out⟩

set_option maxRecDepth 100000 in
set_option maxHeartbeats 2000000 in
theorem core_11_full {w : World} {b off n c : Nat} {xs : NS} {x : NR} {Q kn : Nat} {name P : ByteArray} (A : Ask w b off n xs x Q kn name P) (k : Int) (hk : -9223372036854775808 ≤ k ∧ k ≤ 9223372036854775807) (hneg : k < 0) (hkk : -(k + 1) = (kn : Int)) (hroot : x.1.path = rootP) (hnm : nameB name = true) (hft : fitsB (fileN P) = true) (hat : at? xs P = none) (hdr : x.1.dir = true) (hn60 : n = 60) :
    Calls Try.prog 8 #[.slice (some ⟨b, off, none⟩) n c, .int .i64 k, .string name] w fun e w' => e = .returned (.bool true) ∧ Below w.heap.size w w' := by
  have CR : Hid (∀ W, Below w.heap.size w W → Calls Try.prog 15 #[.slice (some ⟨b, off, none⟩) n c] W fun e w' => e = .returned (.bool true) ∧ Below W.heap.size W w') := fun W hb => right_val (A.nl.below hb) true ⟨fun _ => A.right, fun _ => rfl⟩
  have CF : Hid (∀ W p I, Below w.heap.size w W → findI xs p = I → Calls Try.prog 17 #[.slice (some ⟨b, off, none⟩) n c, .string p] W fun e w' => e = .returned (.int .i64 I) ∧ Below W.heap.size W w') := fun W p I hb hI => find_val (A.nl.below hb) p I hI
  have CA : Hid (∀ W y E, Below w.heap.size w W → NdOk W (y, noS) → AddE xs y E → Calls Try.prog 20 #[.slice (some ⟨b, off, none⟩) n c, ndV (y, noS)] W fun e w' => TwoR W.heap.size (addL xs y E) E e w' ∧ Below W.heap.size W w') := fun W y E hb hy hE => add_val (A.nl.below hb) (y, noS) hy E hE
  have HA : Hid (Ask w b off n xs x Q kn name P) := A
  have c0 := A.c0
  have c1 := A.c1
  have c2 := A.c2
  have c3 := A.c3
  have c4 := A.c4
  have hr1 := A.rem
  have hr2 := A.rem2
  have hlt := A.lt
  have hfew := A.few
  have hshort := A.short
  have hsmall := A.small
  obtain ⟨Q1, hQ1, hq1, hz1⟩ := add_is x.1.path ⟨#[47]⟩ (by show x.1.path.size + 1 ≤ _; omega)
  have hz1' : Q1.size ≤ 121 := by rw [hz1]; show x.1.path.size + 1 ≤ 121; omega
  obtain ⟨P0, hP0, hp0, hz0⟩ := add_is Q1 name (by omega)
  obtain ⟨P2, hP2, hp2, hz2⟩ := add_is ⟨#[47]⟩ name (by show 1 + name.size ≤ _; omega)
  have hPP : P = P2 := by rw [← A.kid, hroot, kid_root, hP2]
  have hPz : P.size ≤ 140737488355329 := by rw [hPP, hz2]; show 1 + name.size ≤ _; omega
  rw [← hPP] at hp2
  have e47 : (x.1.path.toList == [47]) = true := by rw [root_eq, decide_eq_true hroot]
  have e47b := e47
  obtain ⟨P3, hP3, hp3, hz3⟩ := add_is P ⟨#[47, 121]⟩ (by show P.size + 2 ≤ _; omega)
  have HPM : Hid (P.size ≤ maxLen) := by show P.size ≤ maxLen; unfold maxLen; omega
  have HP3M : Hid (P3.size ≤ maxLen) := by show P3.size ≤ maxLen; rw [hz3]; show P.size + 2 ≤ maxLen; unfold maxLen; omega
  have HNM : Hid (name.size ≤ maxLen) := by show name.size ≤ maxLen; unfold maxLen; omega
  have HQM : Hid (x.1.path.size ≤ maxLen) := by show x.1.path.size ≤ maxLen; unfold maxLen; omega
  have HN1 : Hid _ := hnm
  have HF1 : Hid _ := hft
  have HI : Hid (findI xs P = -1) := find_neg hat
  obtain ⟨g1, g2, g3⟩ := A.par hnm hft
  obtain ⟨E2, hE2⟩ := addE_any xs (fileN P3)
  have hE20 : E2 ≠ 0 := no_deeper g2 g3 hat (by rw [show P ++ sY = P3 from hP3]; exact hE2)
  have HE2 : Hid (AddE xs (fileN P3) E2) := hE2
  have hE2b : (E2 != 0) = true := by simpa using hE20
  have HE1 : Hid (AddE xs (fileN P) 4) := .long A.right hft g3 hat (by show dirE xs (parD P) = _; rw [g1, A.dirE, hdr]; rfl) (by rw [A.len]; omega)
  have hnb : ((n : Int) == 60) = true := by simp; omega
  obtain ⟨⟨q, d, qu, bs, wr⟩, ⟨sa, sn, sc⟩⟩ := x
  simp only at *
  subst hdr
  have hst := run_store_str
  have hst2 : ∀ (w : World) (a : Addr) (x : Option Addr) (n c : Nat) (m : Mode), (store a (.slice x n c) m).run Try.prog w = stored Try.prog w a (.slice x n c) m := fun w a x n c m => run_store_any w a _ m rfl
  have HC0 : Hid _ := c0
  have HC1 : Hid _ := c1
  have HC2 : Hid _ := c2
  have HC3 : Hid _ := c3
  have HC4 : Hid _ := c4
  clear A hQ1 hz1 hP0 hz0 hP2 hz2 hPP hP3 hz3 hnm hroot hft hat g1 g2 g3 hE2 hE20 hn60 c0 c1 c2 c3 c4 hshort hsmall hz1' hPz
  go_enter Try.func8, Try.ntmps8
  go_wp2_with fail
  refine (examples_val _).mono ?_
  rintro e w1 ⟨rfl, k1⟩
  have K1 : Hid (Below w.heap.size w w1) := k1
  clear k1
  go_wp2_with fail
  refine (CR.out _ K1.out).mono ?_
  rintro e w2 ⟨rfl, k2⟩
  have K2 : Hid (Below w.heap.size w w2) := bel_tr K1.out k2
  have y0 := bel_cell K2.out HC0.out
  have y1 := bel_cell K2.out HC1.out
  have y2 := bel_cell K2.out HC2.out
  have y3 := bel_cell K2.out HC3.out
  have y4 := bel_cell K2.out HC4.out
  clear k2 K1
  go_wp2_with fail
  refine (name_val name true _ HNM.out HN1.out).mono ?_
  rintro e w4 ⟨rfl, hw4⟩
  have K4 : Hid (Below w.heap.size w w4) := by rw [hw4]; exact bel_tr K2.out (bel_al _ _)
  have V1 : Hid (w4.cell? ⟨w2.heap.size, 1, none⟩ = some (.bool true)) := by show _ = _; rw [hw4]; exact World.cell?_alloc_new w2 _ _ 1
  clear hw4 y0 y1 y2 y3 y4
  go_wp2_with fail
  refine (file_agg P _).mono ?_
  rintro e w6 ⟨rfl, k6⟩
  have K6 : Hid (Below w.heap.size w w6) := bel_tr K4.out k6
  have B46 : Hid (Below w4.heap.size w4 w6) := k6
  clear k6
  go_wp2_with fail
  refine (fits_val (fileN P, noS) true _ (noS_ok _ _ rfl HPM.out) HF1.out).mono ?_
  rintro e w7 ⟨rfl, k7⟩
  have K7 : Hid (Below w.heap.size w w7) := bel_tr K6.out k7
  have B47 : Hid (Below w4.heap.size w4 w7) := bel_tr B46.out k7
  clear k7
  go_wp2_with fail
  refine (CF.out _ P _ K7.out HI.out).mono ?_
  rintro e w8 ⟨rfl, k8⟩
  have K8 : Hid (Below w.heap.size w w8) := bel_tr K7.out k8
  have B48 : Hid (Below w4.heap.size w4 w8) := bel_tr B47.out k8
  clear k8
  go_wp2_with fail
  refine (file_agg P _).mono ?_
  rintro e w9 ⟨rfl, k9⟩
  have K9 : Hid (Below w.heap.size w w9) := bel_tr K8.out k9
  have B49 : Hid (Below w4.heap.size w4 w9) := bel_tr B48.out k9
  clear k9
  go_wp2_with fail
  refine (CA.out _ (fileN P) 4 K9.out (noS_ok _ _ rfl HPM.out) HE1.out).mono ?_
  rintro e wa ⟨⟨aa, na, ca, rfl, hXa⟩, ka⟩
  have Ka : Hid (Below w.heap.size w wa) := bel_tr K9.out ka
  have B4a : Hid (Below w4.heap.size w4 wa) := bel_tr B49.out ka
  clear ka hXa
  go_wp2_with fail
  refine (file_agg P3 _).mono ?_
  rintro e wb ⟨rfl, kb⟩
  have Kb : Hid (Below w.heap.size w wb) := bel_tr Ka.out kb
  have B4b : Hid (Below w4.heap.size w4 wb) := bel_tr B4a.out kb
  have Bab : Hid (Below wa.heap.size wa wb) := kb
  clear kb
  go_wp2_with fail
  refine (CA.out _ (fileN P3) E2 Kb.out (noS_ok _ _ rfl HP3M.out) HE2.out).mono ?_
  rintro e wc ⟨⟨ac, nc, cc, rfl, hXc⟩, kc⟩
  have Kc : Hid (Below w.heap.size w wc) := bel_tr Kb.out kc
  have Bac : Hid (Below wa.heap.size wa wc) := bel_tr Bab.out kc
  have v1 := bel_cell (bel_tr B4b.out kc) V1.out
  clear kc hXc
  go_wp2
  go_ret
  exact ⟨rfl, Kc.out⟩

set_option maxRecDepth 100000 in
set_option maxHeartbeats 2000000 in
theorem core_11_room {w : World} {b off n c : Nat} {xs : NS} {x : NR} {Q kn : Nat} {name P : ByteArray} (A : Ask w b off n xs x Q kn name P) (k : Int) (hk : -9223372036854775808 ≤ k ∧ k ≤ 9223372036854775807) (hneg : k < 0) (hkk : -(k + 1) = (kn : Int)) (hroot : x.1.path = rootP) (hnm : nameB name = true) (hft : fitsB (fileN P) = true) (hat : at? xs P = none) (hdr : x.1.dir = true) (hn60 : n < 60) :
    Calls Try.prog 8 #[.slice (some ⟨b, off, none⟩) n c, .int .i64 k, .string name] w fun e w' => e = .returned (.bool true) ∧ Below w.heap.size w w' := by
  have CR : Hid (∀ W, Below w.heap.size w W → Calls Try.prog 15 #[.slice (some ⟨b, off, none⟩) n c] W fun e w' => e = .returned (.bool true) ∧ Below W.heap.size W w') := fun W hb => right_val (A.nl.below hb) true ⟨fun _ => A.right, fun _ => rfl⟩
  have CF : Hid (∀ W p I, Below w.heap.size w W → findI xs p = I → Calls Try.prog 17 #[.slice (some ⟨b, off, none⟩) n c, .string p] W fun e w' => e = .returned (.int .i64 I) ∧ Below W.heap.size W w') := fun W p I hb hI => find_val (A.nl.below hb) p I hI
  have CA : Hid (∀ W y E, Below w.heap.size w W → NdOk W (y, noS) → AddE xs y E → Calls Try.prog 20 #[.slice (some ⟨b, off, none⟩) n c, ndV (y, noS)] W fun e w' => TwoR W.heap.size (addL xs y E) E e w' ∧ Below W.heap.size W w') := fun W y E hb hy hE => add_val (A.nl.below hb) (y, noS) hy E hE
  have HA : Hid (Ask w b off n xs x Q kn name P) := A
  have c0 := A.c0
  have c1 := A.c1
  have c2 := A.c2
  have c3 := A.c3
  have c4 := A.c4
  have hr1 := A.rem
  have hr2 := A.rem2
  have hlt := A.lt
  have hfew := A.few
  have hshort := A.short
  have hsmall := A.small
  obtain ⟨Q1, hQ1, hq1, hz1⟩ := add_is x.1.path ⟨#[47]⟩ (by show x.1.path.size + 1 ≤ _; omega)
  have hz1' : Q1.size ≤ 121 := by rw [hz1]; show x.1.path.size + 1 ≤ 121; omega
  obtain ⟨P0, hP0, hp0, hz0⟩ := add_is Q1 name (by omega)
  obtain ⟨P2, hP2, hp2, hz2⟩ := add_is ⟨#[47]⟩ name (by show 1 + name.size ≤ _; omega)
  have hPP : P = P2 := by rw [← A.kid, hroot, kid_root, hP2]
  have hPz : P.size ≤ 140737488355329 := by rw [hPP, hz2]; show 1 + name.size ≤ _; omega
  rw [← hPP] at hp2
  have e47 : (x.1.path.toList == [47]) = true := by rw [root_eq, decide_eq_true hroot]
  have e47b := e47
  obtain ⟨P3, hP3, hp3, hz3⟩ := add_is P ⟨#[47, 121]⟩ (by show P.size + 2 ≤ _; omega)
  have HPM : Hid (P.size ≤ maxLen) := by show P.size ≤ maxLen; unfold maxLen; omega
  have HP3M : Hid (P3.size ≤ maxLen) := by show P3.size ≤ maxLen; rw [hz3]; show P.size + 2 ≤ maxLen; unfold maxLen; omega
  have HNM : Hid (name.size ≤ maxLen) := by show name.size ≤ maxLen; unfold maxLen; omega
  have HQM : Hid (x.1.path.size ≤ maxLen) := by show x.1.path.size ≤ maxLen; unfold maxLen; omega
  have HN1 : Hid _ := hnm
  have HF1 : Hid _ := hft
  have HI : Hid (findI xs P = -1) := find_neg hat
  obtain ⟨g1, g2, g3⟩ := A.par hnm hft
  obtain ⟨E2, hE2⟩ := addE_any xs (fileN P3)
  have hE20 : E2 ≠ 0 := no_deeper g2 g3 hat (by rw [show P ++ sY = P3 from hP3]; exact hE2)
  have HE2 : Hid (AddE xs (fileN P3) E2) := hE2
  have hE2b : (E2 != 0) = true := by simpa using hE20
  have HE1 : Hid (AddE xs (fileN P) 0) := .ok A.right hft g3 hat (by show dirE xs (parD P) = _; rw [g1, A.dirE, hdr]; rfl) (by rw [A.len]; omega)
  obtain ⟨J, hJ, _⟩ := find_pos (xs := sortN (xs ++ [fileN P])) (p := P) (at_ex.2 ⟨fileN P, sortN_mem.2 (by simp), rfl⟩)
  have HJ : Hid (findI (sortN (xs ++ [fileN P])) P = (J : Int)) := hJ
  have HADD : Hid (addL xs (fileN P) 0 = sortN (xs ++ [fileN P])) := rfl
  have hnb : ((n : Int) == 60) = false := by simp; omega
  obtain ⟨⟨q, d, qu, bs, wr⟩, ⟨sa, sn, sc⟩⟩ := x
  simp only at *
  subst hdr
  have hst := run_store_str
  have hst2 : ∀ (w : World) (a : Addr) (x : Option Addr) (n c : Nat) (m : Mode), (store a (.slice x n c) m).run Try.prog w = stored Try.prog w a (.slice x n c) m := fun w a x n c m => run_store_any w a _ m rfl
  have HC0 : Hid _ := c0
  have HC1 : Hid _ := c1
  have HC2 : Hid _ := c2
  have HC3 : Hid _ := c3
  have HC4 : Hid _ := c4
  clear A hQ1 hz1 hP0 hz0 hP2 hz2 hPP hP3 hz3 hnm hroot hft hat g1 g2 g3 hE2 hE20 hJ hn60 c0 c1 c2 c3 c4 hshort hsmall hz1' hPz
  go_enter Try.func8, Try.ntmps8
  go_wp2_with fail
  refine (examples_val _).mono ?_
  rintro e w1 ⟨rfl, k1⟩
  have K1 : Hid (Below w.heap.size w w1) := k1
  clear k1
  go_wp2_with fail
  refine (CR.out _ K1.out).mono ?_
  rintro e w2 ⟨rfl, k2⟩
  have K2 : Hid (Below w.heap.size w w2) := bel_tr K1.out k2
  have y0 := bel_cell K2.out HC0.out
  have y1 := bel_cell K2.out HC1.out
  have y2 := bel_cell K2.out HC2.out
  have y3 := bel_cell K2.out HC3.out
  have y4 := bel_cell K2.out HC4.out
  clear k2 K1
  go_wp2_with fail
  refine (name_val name true _ HNM.out HN1.out).mono ?_
  rintro e w4 ⟨rfl, hw4⟩
  have K4 : Hid (Below w.heap.size w w4) := by rw [hw4]; exact bel_tr K2.out (bel_al _ _)
  have V1 : Hid (w4.cell? ⟨w2.heap.size, 1, none⟩ = some (.bool true)) := by show _ = _; rw [hw4]; exact World.cell?_alloc_new w2 _ _ 1
  clear hw4 y0 y1 y2 y3 y4
  go_wp2_with fail
  refine (file_agg P _).mono ?_
  rintro e w6 ⟨rfl, k6⟩
  have K6 : Hid (Below w.heap.size w w6) := bel_tr K4.out k6
  have B46 : Hid (Below w4.heap.size w4 w6) := k6
  clear k6
  go_wp2_with fail
  refine (fits_val (fileN P, noS) true _ (noS_ok _ _ rfl HPM.out) HF1.out).mono ?_
  rintro e w7 ⟨rfl, k7⟩
  have K7 : Hid (Below w.heap.size w w7) := bel_tr K6.out k7
  have B47 : Hid (Below w4.heap.size w4 w7) := bel_tr B46.out k7
  clear k7
  go_wp2_with fail
  refine (CF.out _ P _ K7.out HI.out).mono ?_
  rintro e w8 ⟨rfl, k8⟩
  have K8 : Hid (Below w.heap.size w w8) := bel_tr K7.out k8
  have B48 : Hid (Below w4.heap.size w4 w8) := bel_tr B47.out k8
  clear k8
  go_wp2_with fail
  refine (file_agg P _).mono ?_
  rintro e w9 ⟨rfl, k9⟩
  have K9 : Hid (Below w.heap.size w w9) := bel_tr K8.out k9
  have B49 : Hid (Below w4.heap.size w4 w9) := bel_tr B48.out k9
  clear k9
  go_wp2_with fail
  refine (CA.out _ (fileN P) 0 K9.out (noS_ok _ _ rfl HPM.out) HE1.out).mono ?_
  rintro e wa ⟨⟨aa, na, ca, rfl, hXa⟩, ka⟩
  have Ka : Hid (Below w.heap.size w wa) := bel_tr K9.out ka
  have B4a : Hid (Below w4.heap.size w4 wa) := bel_tr B49.out ka
  rw [HADD.out] at hXa
  have HXa : Hid (NL wa aa na (sortN (xs ++ [fileN P]))) := hXa.nl
  clear ka hXa
  go_wp2_with fail
  refine (file_agg P3 _).mono ?_
  rintro e wb ⟨rfl, kb⟩
  have Kb : Hid (Below w.heap.size w wb) := bel_tr Ka.out kb
  have B4b : Hid (Below w4.heap.size w4 wb) := bel_tr B4a.out kb
  have Bab : Hid (Below wa.heap.size wa wb) := kb
  clear kb
  go_wp2_with fail
  refine (CA.out _ (fileN P3) E2 Kb.out (noS_ok _ _ rfl HP3M.out) HE2.out).mono ?_
  rintro e wc ⟨⟨ac, nc, cc, rfl, hXc⟩, kc⟩
  have Kc : Hid (Below w.heap.size w wc) := bel_tr Kb.out kc
  have Bac : Hid (Below wa.heap.size wa wc) := bel_tr Bab.out kc
  have v1 := bel_cell (bel_tr B4b.out kc) V1.out
  clear kc hXc
  go_wp2_with fail
  refine (find_val (HXa.out.below Bac.out) P (J : Int) HJ.out).mono ?_
  rintro e wd ⟨rfl, kd⟩
  have Kd : Hid (Below w.heap.size w wd) := bel_tr Kc.out kd
  clear kd
  go_wp2
  go_ret
  exact ⟨rfl, Kd.out⟩

set_option maxRecDepth 100000 in
set_option maxHeartbeats 2000000 in
theorem core_10_noname {w : World} {b off n c : Nat} {xs : NS} {x : NR} {Q kn : Nat} {name P : ByteArray} (A : Ask w b off n xs x Q kn name P) (k : Int) (hk : -9223372036854775808 ≤ k ∧ k ≤ 9223372036854775807) (hneg : k < 0) (hkk : -(k + 1) = (kn : Int)) (hroot : x.1.path ≠ rootP) (hnm : nameB name = false) :
    Calls Try.prog 8 #[.slice (some ⟨b, off, none⟩) n c, .int .i64 k, .string name] w fun e w' => e = .returned (.bool true) ∧ Below w.heap.size w w' := by
  have CR : Hid (∀ W, Below w.heap.size w W → Calls Try.prog 15 #[.slice (some ⟨b, off, none⟩) n c] W fun e w' => e = .returned (.bool true) ∧ Below W.heap.size W w') := fun W hb => right_val (A.nl.below hb) true ⟨fun _ => A.right, fun _ => rfl⟩
  have CF : Hid (∀ W p I, Below w.heap.size w W → findI xs p = I → Calls Try.prog 17 #[.slice (some ⟨b, off, none⟩) n c, .string p] W fun e w' => e = .returned (.int .i64 I) ∧ Below W.heap.size W w') := fun W p I hb hI => find_val (A.nl.below hb) p I hI
  have CA : Hid (∀ W y E, Below w.heap.size w W → NdOk W (y, noS) → AddE xs y E → Calls Try.prog 20 #[.slice (some ⟨b, off, none⟩) n c, ndV (y, noS)] W fun e w' => TwoR W.heap.size (addL xs y E) E e w' ∧ Below W.heap.size W w') := fun W y E hb hy hE => add_val (A.nl.below hb) (y, noS) hy E hE
  have HA : Hid (Ask w b off n xs x Q kn name P) := A
  have c0 := A.c0
  have c1 := A.c1
  have c2 := A.c2
  have c3 := A.c3
  have c4 := A.c4
  have hr1 := A.rem
  have hr2 := A.rem2
  have hlt := A.lt
  have hfew := A.few
  have hshort := A.short
  have hsmall := A.small
  obtain ⟨Q1, hQ1, hq1, hz1⟩ := add_is x.1.path ⟨#[47]⟩ (by show x.1.path.size + 1 ≤ _; omega)
  have hz1' : Q1.size ≤ 121 := by rw [hz1]; show x.1.path.size + 1 ≤ 121; omega
  obtain ⟨P0, hP0, hp0, hz0⟩ := add_is Q1 name (by omega)
  obtain ⟨P2, hP2, hp2, hz2⟩ := add_is ⟨#[47]⟩ name (by show 1 + name.size ≤ _; omega)
  have hPP : P = P0 := by rw [← A.kid, kid_not hroot, hQ1, hP0]
  have hPz : P.size ≤ 140737488355449 := by rw [hPP, hz0]; omega
  rw [← hPP] at hp0
  have e47 : (x.1.path.toList == [47]) = false := by rw [root_eq, decide_eq_false hroot]
  have H6 : Hid (AddE xs (dirN x.1.path) 6) := A.exist hroot
  have e47b := e47
  obtain ⟨P3, hP3, hp3, hz3⟩ := add_is P ⟨#[47, 121]⟩ (by show P.size + 2 ≤ _; omega)
  have HPM : Hid (P.size ≤ maxLen) := by show P.size ≤ maxLen; unfold maxLen; omega
  have HP3M : Hid (P3.size ≤ maxLen) := by show P3.size ≤ maxLen; rw [hz3]; show P.size + 2 ≤ maxLen; unfold maxLen; omega
  have HNM : Hid (name.size ≤ maxLen) := by show name.size ≤ maxLen; unfold maxLen; omega
  have HQM : Hid (x.1.path.size ≤ maxLen) := by show x.1.path.size ≤ maxLen; unfold maxLen; omega
  have HN1 : Hid _ := hnm
  obtain ⟨⟨q, d, qu, bs, wr⟩, ⟨sa, sn, sc⟩⟩ := x
  simp only at *
  have hst := run_store_str
  have hst2 : ∀ (w : World) (a : Addr) (x : Option Addr) (n c : Nat) (m : Mode), (store a (.slice x n c) m).run Try.prog w = stored Try.prog w a (.slice x n c) m := fun w a x n c m => run_store_any w a _ m rfl
  have HC0 : Hid _ := c0
  have HC1 : Hid _ := c1
  have HC2 : Hid _ := c2
  have HC3 : Hid _ := c3
  have HC4 : Hid _ := c4
  clear A hQ1 hz1 hP0 hz0 hP2 hz2 hPP hP3 hz3 hnm hroot c0 c1 c2 c3 c4 hshort hsmall hz1' hPz
  go_enter Try.func8, Try.ntmps8
  go_wp2_with fail
  refine (examples_val _).mono ?_
  rintro e w1 ⟨rfl, k1⟩
  have K1 : Hid (Below w.heap.size w w1) := k1
  clear k1
  go_wp2_with fail
  refine (CR.out _ K1.out).mono ?_
  rintro e w2 ⟨rfl, k2⟩
  have K2 : Hid (Below w.heap.size w w2) := bel_tr K1.out k2
  have y0 := bel_cell K2.out HC0.out
  have y1 := bel_cell K2.out HC1.out
  have y2 := bel_cell K2.out HC2.out
  have y3 := bel_cell K2.out HC3.out
  have y4 := bel_cell K2.out HC4.out
  clear k2 K1
  go_wp2_with fail
  refine (dir_agg q _).mono ?_
  rintro e w3 ⟨rfl, k3⟩
  have K3 : Hid (Below w.heap.size w w3) := bel_tr K2.out (bel_tr (bel_al _ _) k3)
  have z0 := bel_cell k3 (World.cell?_alloc_new w2 _ _ 0)
  have z1 := bel_cell k3 (World.cell?_alloc_new w2 _ _ 1)
  have Z0 : Hid _ := z0
  have Z1 : Hid _ := z1
  clear k3 y0 y1 y2 y3 y4 z0 z1
  go_wp2_with fail
  refine (CA.out _ (dirN q) 6 K3.out (noS_ok _ _ rfl HQM.out) H6.out).mono ?_
  rintro e w4 ⟨⟨a4, n4, c4, rfl, hX4⟩, k4⟩
  have K4 : Hid (Below w.heap.size w w4) := bel_tr K3.out k4
  have z0 : w4.cell? ⟨w2.heap.size, 0, none⟩ = some (.string q) := bel_cell k4 Z0.out
  have z1 : w4.cell? ⟨w2.heap.size, 1, none⟩ = some (.bool d) := bel_cell k4 Z1.out
  have V1 : Hid _ := z1
  clear k4 hX4 Z0 Z1
  go_wp2_with fail
  refine (name_val name false _ HNM.out HN1.out).mono ?_
  rintro e w5 ⟨rfl, hw5⟩
  obtain rfl : w4 = w5 := hw5.symm
  clear z0 z1
  go_wp2
  go_ret
  exact ⟨rfl, K4.out⟩

set_option maxRecDepth 100000 in
set_option maxHeartbeats 2000000 in
theorem core_10_nofit {w : World} {b off n c : Nat} {xs : NS} {x : NR} {Q kn : Nat} {name P : ByteArray} (A : Ask w b off n xs x Q kn name P) (k : Int) (hk : -9223372036854775808 ≤ k ∧ k ≤ 9223372036854775807) (hneg : k < 0) (hkk : -(k + 1) = (kn : Int)) (hroot : x.1.path ≠ rootP) (hnm : nameB name = true) (hft : fitsB (fileN P) = false) :
    Calls Try.prog 8 #[.slice (some ⟨b, off, none⟩) n c, .int .i64 k, .string name] w fun e w' => e = .returned (.bool true) ∧ Below w.heap.size w w' := by
  have CR : Hid (∀ W, Below w.heap.size w W → Calls Try.prog 15 #[.slice (some ⟨b, off, none⟩) n c] W fun e w' => e = .returned (.bool true) ∧ Below W.heap.size W w') := fun W hb => right_val (A.nl.below hb) true ⟨fun _ => A.right, fun _ => rfl⟩
  have CF : Hid (∀ W p I, Below w.heap.size w W → findI xs p = I → Calls Try.prog 17 #[.slice (some ⟨b, off, none⟩) n c, .string p] W fun e w' => e = .returned (.int .i64 I) ∧ Below W.heap.size W w') := fun W p I hb hI => find_val (A.nl.below hb) p I hI
  have CA : Hid (∀ W y E, Below w.heap.size w W → NdOk W (y, noS) → AddE xs y E → Calls Try.prog 20 #[.slice (some ⟨b, off, none⟩) n c, ndV (y, noS)] W fun e w' => TwoR W.heap.size (addL xs y E) E e w' ∧ Below W.heap.size W w') := fun W y E hb hy hE => add_val (A.nl.below hb) (y, noS) hy E hE
  have HA : Hid (Ask w b off n xs x Q kn name P) := A
  have c0 := A.c0
  have c1 := A.c1
  have c2 := A.c2
  have c3 := A.c3
  have c4 := A.c4
  have hr1 := A.rem
  have hr2 := A.rem2
  have hlt := A.lt
  have hfew := A.few
  have hshort := A.short
  have hsmall := A.small
  obtain ⟨Q1, hQ1, hq1, hz1⟩ := add_is x.1.path ⟨#[47]⟩ (by show x.1.path.size + 1 ≤ _; omega)
  have hz1' : Q1.size ≤ 121 := by rw [hz1]; show x.1.path.size + 1 ≤ 121; omega
  obtain ⟨P0, hP0, hp0, hz0⟩ := add_is Q1 name (by omega)
  obtain ⟨P2, hP2, hp2, hz2⟩ := add_is ⟨#[47]⟩ name (by show 1 + name.size ≤ _; omega)
  have hPP : P = P0 := by rw [← A.kid, kid_not hroot, hQ1, hP0]
  have hPz : P.size ≤ 140737488355449 := by rw [hPP, hz0]; omega
  rw [← hPP] at hp0
  have e47 : (x.1.path.toList == [47]) = false := by rw [root_eq, decide_eq_false hroot]
  have H6 : Hid (AddE xs (dirN x.1.path) 6) := A.exist hroot
  have e47b := e47
  obtain ⟨P3, hP3, hp3, hz3⟩ := add_is P ⟨#[47, 121]⟩ (by show P.size + 2 ≤ _; omega)
  have HPM : Hid (P.size ≤ maxLen) := by show P.size ≤ maxLen; unfold maxLen; omega
  have HP3M : Hid (P3.size ≤ maxLen) := by show P3.size ≤ maxLen; rw [hz3]; show P.size + 2 ≤ maxLen; unfold maxLen; omega
  have HNM : Hid (name.size ≤ maxLen) := by show name.size ≤ maxLen; unfold maxLen; omega
  have HQM : Hid (x.1.path.size ≤ maxLen) := by show x.1.path.size ≤ maxLen; unfold maxLen; omega
  have HN1 : Hid _ := hnm
  have HF1 : Hid _ := hft
  obtain ⟨⟨q, d, qu, bs, wr⟩, ⟨sa, sn, sc⟩⟩ := x
  simp only at *
  have hst := run_store_str
  have hst2 : ∀ (w : World) (a : Addr) (x : Option Addr) (n c : Nat) (m : Mode), (store a (.slice x n c) m).run Try.prog w = stored Try.prog w a (.slice x n c) m := fun w a x n c m => run_store_any w a _ m rfl
  have HC0 : Hid _ := c0
  have HC1 : Hid _ := c1
  have HC2 : Hid _ := c2
  have HC3 : Hid _ := c3
  have HC4 : Hid _ := c4
  clear A hQ1 hz1 hP0 hz0 hP2 hz2 hPP hP3 hz3 hnm hroot hft c0 c1 c2 c3 c4 hshort hsmall hz1' hPz
  go_enter Try.func8, Try.ntmps8
  go_wp2_with fail
  refine (examples_val _).mono ?_
  rintro e w1 ⟨rfl, k1⟩
  have K1 : Hid (Below w.heap.size w w1) := k1
  clear k1
  go_wp2_with fail
  refine (CR.out _ K1.out).mono ?_
  rintro e w2 ⟨rfl, k2⟩
  have K2 : Hid (Below w.heap.size w w2) := bel_tr K1.out k2
  have y0 := bel_cell K2.out HC0.out
  have y1 := bel_cell K2.out HC1.out
  have y2 := bel_cell K2.out HC2.out
  have y3 := bel_cell K2.out HC3.out
  have y4 := bel_cell K2.out HC4.out
  clear k2 K1
  go_wp2_with fail
  refine (dir_agg q _).mono ?_
  rintro e w3 ⟨rfl, k3⟩
  have K3 : Hid (Below w.heap.size w w3) := bel_tr K2.out (bel_tr (bel_al _ _) k3)
  have z0 := bel_cell k3 (World.cell?_alloc_new w2 _ _ 0)
  have z1 := bel_cell k3 (World.cell?_alloc_new w2 _ _ 1)
  have Z0 : Hid _ := z0
  have Z1 : Hid _ := z1
  clear k3 y0 y1 y2 y3 y4 z0 z1
  go_wp2_with fail
  refine (CA.out _ (dirN q) 6 K3.out (noS_ok _ _ rfl HQM.out) H6.out).mono ?_
  rintro e w4 ⟨⟨a4, n4, c4, rfl, hX4⟩, k4⟩
  have K4 : Hid (Below w.heap.size w w4) := bel_tr K3.out k4
  have z0 : w4.cell? ⟨w2.heap.size, 0, none⟩ = some (.string q) := bel_cell k4 Z0.out
  have z1 : w4.cell? ⟨w2.heap.size, 1, none⟩ = some (.bool d) := bel_cell k4 Z1.out
  have V1 : Hid _ := z1
  clear k4 hX4 Z0 Z1
  go_wp2_with fail
  refine (name_val name true _ HNM.out HN1.out).mono ?_
  rintro e w5 ⟨rfl, hw5⟩
  obtain rfl : w4 = w5 := hw5.symm
  clear z0 z1
  go_wp2_with fail
  refine (file_agg P _).mono ?_
  rintro e w6 ⟨rfl, k6⟩
  have K6 : Hid (Below w.heap.size w w6) := bel_tr K4.out k6
  have B46 : Hid (Below w4.heap.size w4 w6) := k6
  clear k6
  go_wp2_with fail
  refine (fits_val (fileN P, noS) false _ (noS_ok _ _ rfl HPM.out) HF1.out).mono ?_
  rintro e w7 ⟨rfl, k7⟩
  have K7 : Hid (Below w.heap.size w w7) := bel_tr K6.out k7
  have B47 : Hid (Below w4.heap.size w4 w7) := bel_tr B46.out k7
  clear k7
  go_wp2
  go_ret
  exact ⟨rfl, K7.out⟩

set_option maxRecDepth 100000 in
set_option maxHeartbeats 2000000 in
theorem core_10_found {w : World} {b off n c : Nat} {xs : NS} {x : NR} {Q kn : Nat} {name P : ByteArray} (A : Ask w b off n xs x Q kn name P) (k : Int) (hk : -9223372036854775808 ≤ k ∧ k ≤ 9223372036854775807) (hneg : k < 0) (hkk : -(k + 1) = (kn : Int)) (hroot : x.1.path ≠ rootP) (hnm : nameB name = true) (hft : fitsB (fileN P) = true) (hat : at? xs P ≠ none) :
    Calls Try.prog 8 #[.slice (some ⟨b, off, none⟩) n c, .int .i64 k, .string name] w fun e w' => e = .returned (.bool true) ∧ Below w.heap.size w w' := by
  have CR : Hid (∀ W, Below w.heap.size w W → Calls Try.prog 15 #[.slice (some ⟨b, off, none⟩) n c] W fun e w' => e = .returned (.bool true) ∧ Below W.heap.size W w') := fun W hb => right_val (A.nl.below hb) true ⟨fun _ => A.right, fun _ => rfl⟩
  have CF : Hid (∀ W p I, Below w.heap.size w W → findI xs p = I → Calls Try.prog 17 #[.slice (some ⟨b, off, none⟩) n c, .string p] W fun e w' => e = .returned (.int .i64 I) ∧ Below W.heap.size W w') := fun W p I hb hI => find_val (A.nl.below hb) p I hI
  have CA : Hid (∀ W y E, Below w.heap.size w W → NdOk W (y, noS) → AddE xs y E → Calls Try.prog 20 #[.slice (some ⟨b, off, none⟩) n c, ndV (y, noS)] W fun e w' => TwoR W.heap.size (addL xs y E) E e w' ∧ Below W.heap.size W w') := fun W y E hb hy hE => add_val (A.nl.below hb) (y, noS) hy E hE
  have HA : Hid (Ask w b off n xs x Q kn name P) := A
  have c0 := A.c0
  have c1 := A.c1
  have c2 := A.c2
  have c3 := A.c3
  have c4 := A.c4
  have hr1 := A.rem
  have hr2 := A.rem2
  have hlt := A.lt
  have hfew := A.few
  have hshort := A.short
  have hsmall := A.small
  obtain ⟨Q1, hQ1, hq1, hz1⟩ := add_is x.1.path ⟨#[47]⟩ (by show x.1.path.size + 1 ≤ _; omega)
  have hz1' : Q1.size ≤ 121 := by rw [hz1]; show x.1.path.size + 1 ≤ 121; omega
  obtain ⟨P0, hP0, hp0, hz0⟩ := add_is Q1 name (by omega)
  obtain ⟨P2, hP2, hp2, hz2⟩ := add_is ⟨#[47]⟩ name (by show 1 + name.size ≤ _; omega)
  have hPP : P = P0 := by rw [← A.kid, kid_not hroot, hQ1, hP0]
  have hPz : P.size ≤ 140737488355449 := by rw [hPP, hz0]; omega
  rw [← hPP] at hp0
  have e47 : (x.1.path.toList == [47]) = false := by rw [root_eq, decide_eq_false hroot]
  have H6 : Hid (AddE xs (dirN x.1.path) 6) := A.exist hroot
  have e47b := e47
  obtain ⟨P3, hP3, hp3, hz3⟩ := add_is P ⟨#[47, 121]⟩ (by show P.size + 2 ≤ _; omega)
  have HPM : Hid (P.size ≤ maxLen) := by show P.size ≤ maxLen; unfold maxLen; omega
  have HP3M : Hid (P3.size ≤ maxLen) := by show P3.size ≤ maxLen; rw [hz3]; show P.size + 2 ≤ maxLen; unfold maxLen; omega
  have HNM : Hid (name.size ≤ maxLen) := by show name.size ≤ maxLen; unfold maxLen; omega
  have HQM : Hid (x.1.path.size ≤ maxLen) := by show x.1.path.size ≤ maxLen; unfold maxLen; omega
  have HN1 : Hid _ := hnm
  have HF1 : Hid _ := hft
  obtain ⟨I, hI, _⟩ := find_pos hat
  have HI : Hid _ := hI
  obtain ⟨⟨q, d, qu, bs, wr⟩, ⟨sa, sn, sc⟩⟩ := x
  simp only at *
  have hst := run_store_str
  have hst2 : ∀ (w : World) (a : Addr) (x : Option Addr) (n c : Nat) (m : Mode), (store a (.slice x n c) m).run Try.prog w = stored Try.prog w a (.slice x n c) m := fun w a x n c m => run_store_any w a _ m rfl
  have HC0 : Hid _ := c0
  have HC1 : Hid _ := c1
  have HC2 : Hid _ := c2
  have HC3 : Hid _ := c3
  have HC4 : Hid _ := c4
  clear A hQ1 hz1 hP0 hz0 hP2 hz2 hPP hP3 hz3 hnm hroot hft hat hI c0 c1 c2 c3 c4 hshort hsmall hz1' hPz
  go_enter Try.func8, Try.ntmps8
  go_wp2_with fail
  refine (examples_val _).mono ?_
  rintro e w1 ⟨rfl, k1⟩
  have K1 : Hid (Below w.heap.size w w1) := k1
  clear k1
  go_wp2_with fail
  refine (CR.out _ K1.out).mono ?_
  rintro e w2 ⟨rfl, k2⟩
  have K2 : Hid (Below w.heap.size w w2) := bel_tr K1.out k2
  have y0 := bel_cell K2.out HC0.out
  have y1 := bel_cell K2.out HC1.out
  have y2 := bel_cell K2.out HC2.out
  have y3 := bel_cell K2.out HC3.out
  have y4 := bel_cell K2.out HC4.out
  clear k2 K1
  go_wp2_with fail
  refine (dir_agg q _).mono ?_
  rintro e w3 ⟨rfl, k3⟩
  have K3 : Hid (Below w.heap.size w w3) := bel_tr K2.out (bel_tr (bel_al _ _) k3)
  have z0 := bel_cell k3 (World.cell?_alloc_new w2 _ _ 0)
  have z1 := bel_cell k3 (World.cell?_alloc_new w2 _ _ 1)
  have Z0 : Hid _ := z0
  have Z1 : Hid _ := z1
  clear k3 y0 y1 y2 y3 y4 z0 z1
  go_wp2_with fail
  refine (CA.out _ (dirN q) 6 K3.out (noS_ok _ _ rfl HQM.out) H6.out).mono ?_
  rintro e w4 ⟨⟨a4, n4, c4, rfl, hX4⟩, k4⟩
  have K4 : Hid (Below w.heap.size w w4) := bel_tr K3.out k4
  have z0 : w4.cell? ⟨w2.heap.size, 0, none⟩ = some (.string q) := bel_cell k4 Z0.out
  have z1 : w4.cell? ⟨w2.heap.size, 1, none⟩ = some (.bool d) := bel_cell k4 Z1.out
  have V1 : Hid _ := z1
  clear k4 hX4 Z0 Z1
  go_wp2_with fail
  refine (name_val name true _ HNM.out HN1.out).mono ?_
  rintro e w5 ⟨rfl, hw5⟩
  obtain rfl : w4 = w5 := hw5.symm
  clear z0 z1
  go_wp2_with fail
  refine (file_agg P _).mono ?_
  rintro e w6 ⟨rfl, k6⟩
  have K6 : Hid (Below w.heap.size w w6) := bel_tr K4.out k6
  have B46 : Hid (Below w4.heap.size w4 w6) := k6
  clear k6
  go_wp2_with fail
  refine (fits_val (fileN P, noS) true _ (noS_ok _ _ rfl HPM.out) HF1.out).mono ?_
  rintro e w7 ⟨rfl, k7⟩
  have K7 : Hid (Below w.heap.size w w7) := bel_tr K6.out k7
  have B47 : Hid (Below w4.heap.size w4 w7) := bel_tr B46.out k7
  clear k7
  go_wp2_with fail
  refine (CF.out _ P _ K7.out HI.out).mono ?_
  rintro e w8 ⟨rfl, k8⟩
  have K8 : Hid (Below w.heap.size w w8) := bel_tr K7.out k8
  have B48 : Hid (Below w4.heap.size w4 w8) := bel_tr B47.out k8
  clear k8
  go_wp2
  go_ret
  exact ⟨rfl, K8.out⟩

set_option maxRecDepth 100000 in
set_option maxHeartbeats 2000000 in
theorem core_10_file {w : World} {b off n c : Nat} {xs : NS} {x : NR} {Q kn : Nat} {name P : ByteArray} (A : Ask w b off n xs x Q kn name P) (k : Int) (hk : -9223372036854775808 ≤ k ∧ k ≤ 9223372036854775807) (hneg : k < 0) (hkk : -(k + 1) = (kn : Int)) (hroot : x.1.path ≠ rootP) (hnm : nameB name = true) (hft : fitsB (fileN P) = true) (hat : at? xs P = none) (hdr : x.1.dir = false) :
    Calls Try.prog 8 #[.slice (some ⟨b, off, none⟩) n c, .int .i64 k, .string name] w fun e w' => e = .returned (.bool true) ∧ Below w.heap.size w w' := by
  have CR : Hid (∀ W, Below w.heap.size w W → Calls Try.prog 15 #[.slice (some ⟨b, off, none⟩) n c] W fun e w' => e = .returned (.bool true) ∧ Below W.heap.size W w') := fun W hb => right_val (A.nl.below hb) true ⟨fun _ => A.right, fun _ => rfl⟩
  have CF : Hid (∀ W p I, Below w.heap.size w W → findI xs p = I → Calls Try.prog 17 #[.slice (some ⟨b, off, none⟩) n c, .string p] W fun e w' => e = .returned (.int .i64 I) ∧ Below W.heap.size W w') := fun W p I hb hI => find_val (A.nl.below hb) p I hI
  have CA : Hid (∀ W y E, Below w.heap.size w W → NdOk W (y, noS) → AddE xs y E → Calls Try.prog 20 #[.slice (some ⟨b, off, none⟩) n c, ndV (y, noS)] W fun e w' => TwoR W.heap.size (addL xs y E) E e w' ∧ Below W.heap.size W w') := fun W y E hb hy hE => add_val (A.nl.below hb) (y, noS) hy E hE
  have HA : Hid (Ask w b off n xs x Q kn name P) := A
  have c0 := A.c0
  have c1 := A.c1
  have c2 := A.c2
  have c3 := A.c3
  have c4 := A.c4
  have hr1 := A.rem
  have hr2 := A.rem2
  have hlt := A.lt
  have hfew := A.few
  have hshort := A.short
  have hsmall := A.small
  obtain ⟨Q1, hQ1, hq1, hz1⟩ := add_is x.1.path ⟨#[47]⟩ (by show x.1.path.size + 1 ≤ _; omega)
  have hz1' : Q1.size ≤ 121 := by rw [hz1]; show x.1.path.size + 1 ≤ 121; omega
  obtain ⟨P0, hP0, hp0, hz0⟩ := add_is Q1 name (by omega)
  obtain ⟨P2, hP2, hp2, hz2⟩ := add_is ⟨#[47]⟩ name (by show 1 + name.size ≤ _; omega)
  have hPP : P = P0 := by rw [← A.kid, kid_not hroot, hQ1, hP0]
  have hPz : P.size ≤ 140737488355449 := by rw [hPP, hz0]; omega
  rw [← hPP] at hp0
  have e47 : (x.1.path.toList == [47]) = false := by rw [root_eq, decide_eq_false hroot]
  have H6 : Hid (AddE xs (dirN x.1.path) 6) := A.exist hroot
  have e47b := e47
  obtain ⟨P3, hP3, hp3, hz3⟩ := add_is P ⟨#[47, 121]⟩ (by show P.size + 2 ≤ _; omega)
  have HPM : Hid (P.size ≤ maxLen) := by show P.size ≤ maxLen; unfold maxLen; omega
  have HP3M : Hid (P3.size ≤ maxLen) := by show P3.size ≤ maxLen; rw [hz3]; show P.size + 2 ≤ maxLen; unfold maxLen; omega
  have HNM : Hid (name.size ≤ maxLen) := by show name.size ≤ maxLen; unfold maxLen; omega
  have HQM : Hid (x.1.path.size ≤ maxLen) := by show x.1.path.size ≤ maxLen; unfold maxLen; omega
  have HN1 : Hid _ := hnm
  have HF1 : Hid _ := hft
  have HI : Hid (findI xs P = -1) := find_neg hat
  obtain ⟨g1, g2, g3⟩ := A.par hnm hft
  obtain ⟨E2, hE2⟩ := addE_any xs (fileN P3)
  have hE20 : E2 ≠ 0 := no_deeper g2 g3 hat (by rw [show P ++ sY = P3 from hP3]; exact hE2)
  have HE2 : Hid (AddE xs (fileN P3) E2) := hE2
  have hE2b : (E2 != 0) = true := by simpa using hE20
  have HE1 : Hid (AddE xs (fileN P) 7) := .par 7 A.right hft g3 hat (by show dirE xs (parD P) = _; rw [g1, A.dirE, hdr]; rfl) (by decide)
  obtain ⟨⟨q, d, qu, bs, wr⟩, ⟨sa, sn, sc⟩⟩ := x
  simp only at *
  subst hdr
  have hst := run_store_str
  have hst2 : ∀ (w : World) (a : Addr) (x : Option Addr) (n c : Nat) (m : Mode), (store a (.slice x n c) m).run Try.prog w = stored Try.prog w a (.slice x n c) m := fun w a x n c m => run_store_any w a _ m rfl
  have HC0 : Hid _ := c0
  have HC1 : Hid _ := c1
  have HC2 : Hid _ := c2
  have HC3 : Hid _ := c3
  have HC4 : Hid _ := c4
  clear A hQ1 hz1 hP0 hz0 hP2 hz2 hPP hP3 hz3 hnm hroot hft hat g1 g2 g3 hE2 hE20 c0 c1 c2 c3 c4 hshort hsmall hz1' hPz
  go_enter Try.func8, Try.ntmps8
  go_wp2_with fail
  refine (examples_val _).mono ?_
  rintro e w1 ⟨rfl, k1⟩
  have K1 : Hid (Below w.heap.size w w1) := k1
  clear k1
  go_wp2_with fail
  refine (CR.out _ K1.out).mono ?_
  rintro e w2 ⟨rfl, k2⟩
  have K2 : Hid (Below w.heap.size w w2) := bel_tr K1.out k2
  have y0 := bel_cell K2.out HC0.out
  have y1 := bel_cell K2.out HC1.out
  have y2 := bel_cell K2.out HC2.out
  have y3 := bel_cell K2.out HC3.out
  have y4 := bel_cell K2.out HC4.out
  clear k2 K1
  go_wp2_with fail
  refine (dir_agg q _).mono ?_
  rintro e w3 ⟨rfl, k3⟩
  have K3 : Hid (Below w.heap.size w w3) := bel_tr K2.out (bel_tr (bel_al _ _) k3)
  have z0 := bel_cell k3 (World.cell?_alloc_new w2 _ _ 0)
  have z1 := bel_cell k3 (World.cell?_alloc_new w2 _ _ 1)
  have Z0 : Hid _ := z0
  have Z1 : Hid _ := z1
  clear k3 y0 y1 y2 y3 y4 z0 z1
  go_wp2_with fail
  refine (CA.out _ (dirN q) 6 K3.out (noS_ok _ _ rfl HQM.out) H6.out).mono ?_
  rintro e w4 ⟨⟨a4, n4, c4, rfl, hX4⟩, k4⟩
  have K4 : Hid (Below w.heap.size w w4) := bel_tr K3.out k4
  have z0 : w4.cell? ⟨w2.heap.size, 0, none⟩ = some (.string q) := bel_cell k4 Z0.out
  have z1 : w4.cell? ⟨w2.heap.size, 1, none⟩ = some (.bool false) := bel_cell k4 Z1.out
  have V1 : Hid _ := z1
  clear k4 hX4 Z0 Z1
  go_wp2_with fail
  refine (name_val name true _ HNM.out HN1.out).mono ?_
  rintro e w5 ⟨rfl, hw5⟩
  obtain rfl : w4 = w5 := hw5.symm
  clear z0 z1
  go_wp2_with fail
  refine (file_agg P _).mono ?_
  rintro e w6 ⟨rfl, k6⟩
  have K6 : Hid (Below w.heap.size w w6) := bel_tr K4.out k6
  have B46 : Hid (Below w4.heap.size w4 w6) := k6
  clear k6
  go_wp2_with fail
  refine (fits_val (fileN P, noS) true _ (noS_ok _ _ rfl HPM.out) HF1.out).mono ?_
  rintro e w7 ⟨rfl, k7⟩
  have K7 : Hid (Below w.heap.size w w7) := bel_tr K6.out k7
  have B47 : Hid (Below w4.heap.size w4 w7) := bel_tr B46.out k7
  clear k7
  go_wp2_with fail
  refine (CF.out _ P _ K7.out HI.out).mono ?_
  rintro e w8 ⟨rfl, k8⟩
  have K8 : Hid (Below w.heap.size w w8) := bel_tr K7.out k8
  have B48 : Hid (Below w4.heap.size w4 w8) := bel_tr B47.out k8
  clear k8
  go_wp2_with fail
  refine (file_agg P _).mono ?_
  rintro e w9 ⟨rfl, k9⟩
  have K9 : Hid (Below w.heap.size w w9) := bel_tr K8.out k9
  have B49 : Hid (Below w4.heap.size w4 w9) := bel_tr B48.out k9
  clear k9
  go_wp2_with fail
  refine (CA.out _ (fileN P) 7 K9.out (noS_ok _ _ rfl HPM.out) HE1.out).mono ?_
  rintro e wa ⟨⟨aa, na, ca, rfl, hXa⟩, ka⟩
  have Ka : Hid (Below w.heap.size w wa) := bel_tr K9.out ka
  have B4a : Hid (Below w4.heap.size w4 wa) := bel_tr B49.out ka
  clear ka hXa
  go_wp2_with fail
  refine (file_agg P3 _).mono ?_
  rintro e wb ⟨rfl, kb⟩
  have Kb : Hid (Below w.heap.size w wb) := bel_tr Ka.out kb
  have B4b : Hid (Below w4.heap.size w4 wb) := bel_tr B4a.out kb
  have Bab : Hid (Below wa.heap.size wa wb) := kb
  clear kb
  go_wp2_with fail
  refine (CA.out _ (fileN P3) E2 Kb.out (noS_ok _ _ rfl HP3M.out) HE2.out).mono ?_
  rintro e wc ⟨⟨ac, nc, cc, rfl, hXc⟩, kc⟩
  have Kc : Hid (Below w.heap.size w wc) := bel_tr Kb.out kc
  have Bac : Hid (Below wa.heap.size wa wc) := bel_tr Bab.out kc
  have v1 := bel_cell (bel_tr B4b.out kc) V1.out
  clear kc hXc
  go_wp2
  go_ret
  exact ⟨rfl, Kc.out⟩

set_option maxRecDepth 100000 in
set_option maxHeartbeats 2000000 in
theorem core_10_full {w : World} {b off n c : Nat} {xs : NS} {x : NR} {Q kn : Nat} {name P : ByteArray} (A : Ask w b off n xs x Q kn name P) (k : Int) (hk : -9223372036854775808 ≤ k ∧ k ≤ 9223372036854775807) (hneg : k < 0) (hkk : -(k + 1) = (kn : Int)) (hroot : x.1.path ≠ rootP) (hnm : nameB name = true) (hft : fitsB (fileN P) = true) (hat : at? xs P = none) (hdr : x.1.dir = true) (hn60 : n = 60) :
    Calls Try.prog 8 #[.slice (some ⟨b, off, none⟩) n c, .int .i64 k, .string name] w fun e w' => e = .returned (.bool true) ∧ Below w.heap.size w w' := by
  have CR : Hid (∀ W, Below w.heap.size w W → Calls Try.prog 15 #[.slice (some ⟨b, off, none⟩) n c] W fun e w' => e = .returned (.bool true) ∧ Below W.heap.size W w') := fun W hb => right_val (A.nl.below hb) true ⟨fun _ => A.right, fun _ => rfl⟩
  have CF : Hid (∀ W p I, Below w.heap.size w W → findI xs p = I → Calls Try.prog 17 #[.slice (some ⟨b, off, none⟩) n c, .string p] W fun e w' => e = .returned (.int .i64 I) ∧ Below W.heap.size W w') := fun W p I hb hI => find_val (A.nl.below hb) p I hI
  have CA : Hid (∀ W y E, Below w.heap.size w W → NdOk W (y, noS) → AddE xs y E → Calls Try.prog 20 #[.slice (some ⟨b, off, none⟩) n c, ndV (y, noS)] W fun e w' => TwoR W.heap.size (addL xs y E) E e w' ∧ Below W.heap.size W w') := fun W y E hb hy hE => add_val (A.nl.below hb) (y, noS) hy E hE
  have HA : Hid (Ask w b off n xs x Q kn name P) := A
  have c0 := A.c0
  have c1 := A.c1
  have c2 := A.c2
  have c3 := A.c3
  have c4 := A.c4
  have hr1 := A.rem
  have hr2 := A.rem2
  have hlt := A.lt
  have hfew := A.few
  have hshort := A.short
  have hsmall := A.small
  obtain ⟨Q1, hQ1, hq1, hz1⟩ := add_is x.1.path ⟨#[47]⟩ (by show x.1.path.size + 1 ≤ _; omega)
  have hz1' : Q1.size ≤ 121 := by rw [hz1]; show x.1.path.size + 1 ≤ 121; omega
  obtain ⟨P0, hP0, hp0, hz0⟩ := add_is Q1 name (by omega)
  obtain ⟨P2, hP2, hp2, hz2⟩ := add_is ⟨#[47]⟩ name (by show 1 + name.size ≤ _; omega)
  have hPP : P = P0 := by rw [← A.kid, kid_not hroot, hQ1, hP0]
  have hPz : P.size ≤ 140737488355449 := by rw [hPP, hz0]; omega
  rw [← hPP] at hp0
  have e47 : (x.1.path.toList == [47]) = false := by rw [root_eq, decide_eq_false hroot]
  have H6 : Hid (AddE xs (dirN x.1.path) 6) := A.exist hroot
  have e47b := e47
  obtain ⟨P3, hP3, hp3, hz3⟩ := add_is P ⟨#[47, 121]⟩ (by show P.size + 2 ≤ _; omega)
  have HPM : Hid (P.size ≤ maxLen) := by show P.size ≤ maxLen; unfold maxLen; omega
  have HP3M : Hid (P3.size ≤ maxLen) := by show P3.size ≤ maxLen; rw [hz3]; show P.size + 2 ≤ maxLen; unfold maxLen; omega
  have HNM : Hid (name.size ≤ maxLen) := by show name.size ≤ maxLen; unfold maxLen; omega
  have HQM : Hid (x.1.path.size ≤ maxLen) := by show x.1.path.size ≤ maxLen; unfold maxLen; omega
  have HN1 : Hid _ := hnm
  have HF1 : Hid _ := hft
  have HI : Hid (findI xs P = -1) := find_neg hat
  obtain ⟨g1, g2, g3⟩ := A.par hnm hft
  obtain ⟨E2, hE2⟩ := addE_any xs (fileN P3)
  have hE20 : E2 ≠ 0 := no_deeper g2 g3 hat (by rw [show P ++ sY = P3 from hP3]; exact hE2)
  have HE2 : Hid (AddE xs (fileN P3) E2) := hE2
  have hE2b : (E2 != 0) = true := by simpa using hE20
  have HE1 : Hid (AddE xs (fileN P) 4) := .long A.right hft g3 hat (by show dirE xs (parD P) = _; rw [g1, A.dirE, hdr]; rfl) (by rw [A.len]; omega)
  have hnb : ((n : Int) == 60) = true := by simp; omega
  obtain ⟨⟨q, d, qu, bs, wr⟩, ⟨sa, sn, sc⟩⟩ := x
  simp only at *
  subst hdr
  have hst := run_store_str
  have hst2 : ∀ (w : World) (a : Addr) (x : Option Addr) (n c : Nat) (m : Mode), (store a (.slice x n c) m).run Try.prog w = stored Try.prog w a (.slice x n c) m := fun w a x n c m => run_store_any w a _ m rfl
  have HC0 : Hid _ := c0
  have HC1 : Hid _ := c1
  have HC2 : Hid _ := c2
  have HC3 : Hid _ := c3
  have HC4 : Hid _ := c4
  clear A hQ1 hz1 hP0 hz0 hP2 hz2 hPP hP3 hz3 hnm hroot hft hat g1 g2 g3 hE2 hE20 hn60 c0 c1 c2 c3 c4 hshort hsmall hz1' hPz
  go_enter Try.func8, Try.ntmps8
  go_wp2_with fail
  refine (examples_val _).mono ?_
  rintro e w1 ⟨rfl, k1⟩
  have K1 : Hid (Below w.heap.size w w1) := k1
  clear k1
  go_wp2_with fail
  refine (CR.out _ K1.out).mono ?_
  rintro e w2 ⟨rfl, k2⟩
  have K2 : Hid (Below w.heap.size w w2) := bel_tr K1.out k2
  have y0 := bel_cell K2.out HC0.out
  have y1 := bel_cell K2.out HC1.out
  have y2 := bel_cell K2.out HC2.out
  have y3 := bel_cell K2.out HC3.out
  have y4 := bel_cell K2.out HC4.out
  clear k2 K1
  go_wp2_with fail
  refine (dir_agg q _).mono ?_
  rintro e w3 ⟨rfl, k3⟩
  have K3 : Hid (Below w.heap.size w w3) := bel_tr K2.out (bel_tr (bel_al _ _) k3)
  have z0 := bel_cell k3 (World.cell?_alloc_new w2 _ _ 0)
  have z1 := bel_cell k3 (World.cell?_alloc_new w2 _ _ 1)
  have Z0 : Hid _ := z0
  have Z1 : Hid _ := z1
  clear k3 y0 y1 y2 y3 y4 z0 z1
  go_wp2_with fail
  refine (CA.out _ (dirN q) 6 K3.out (noS_ok _ _ rfl HQM.out) H6.out).mono ?_
  rintro e w4 ⟨⟨a4, n4, c4, rfl, hX4⟩, k4⟩
  have K4 : Hid (Below w.heap.size w w4) := bel_tr K3.out k4
  have z0 : w4.cell? ⟨w2.heap.size, 0, none⟩ = some (.string q) := bel_cell k4 Z0.out
  have z1 : w4.cell? ⟨w2.heap.size, 1, none⟩ = some (.bool true) := bel_cell k4 Z1.out
  have V1 : Hid _ := z1
  clear k4 hX4 Z0 Z1
  go_wp2_with fail
  refine (name_val name true _ HNM.out HN1.out).mono ?_
  rintro e w5 ⟨rfl, hw5⟩
  obtain rfl : w4 = w5 := hw5.symm
  clear z0 z1
  go_wp2_with fail
  refine (file_agg P _).mono ?_
  rintro e w6 ⟨rfl, k6⟩
  have K6 : Hid (Below w.heap.size w w6) := bel_tr K4.out k6
  have B46 : Hid (Below w4.heap.size w4 w6) := k6
  clear k6
  go_wp2_with fail
  refine (fits_val (fileN P, noS) true _ (noS_ok _ _ rfl HPM.out) HF1.out).mono ?_
  rintro e w7 ⟨rfl, k7⟩
  have K7 : Hid (Below w.heap.size w w7) := bel_tr K6.out k7
  have B47 : Hid (Below w4.heap.size w4 w7) := bel_tr B46.out k7
  clear k7
  go_wp2_with fail
  refine (CF.out _ P _ K7.out HI.out).mono ?_
  rintro e w8 ⟨rfl, k8⟩
  have K8 : Hid (Below w.heap.size w w8) := bel_tr K7.out k8
  have B48 : Hid (Below w4.heap.size w4 w8) := bel_tr B47.out k8
  clear k8
  go_wp2_with fail
  refine (file_agg P _).mono ?_
  rintro e w9 ⟨rfl, k9⟩
  have K9 : Hid (Below w.heap.size w w9) := bel_tr K8.out k9
  have B49 : Hid (Below w4.heap.size w4 w9) := bel_tr B48.out k9
  clear k9
  go_wp2_with fail
  refine (CA.out _ (fileN P) 4 K9.out (noS_ok _ _ rfl HPM.out) HE1.out).mono ?_
  rintro e wa ⟨⟨aa, na, ca, rfl, hXa⟩, ka⟩
  have Ka : Hid (Below w.heap.size w wa) := bel_tr K9.out ka
  have B4a : Hid (Below w4.heap.size w4 wa) := bel_tr B49.out ka
  clear ka hXa
  go_wp2_with fail
  refine (file_agg P3 _).mono ?_
  rintro e wb ⟨rfl, kb⟩
  have Kb : Hid (Below w.heap.size w wb) := bel_tr Ka.out kb
  have B4b : Hid (Below w4.heap.size w4 wb) := bel_tr B4a.out kb
  have Bab : Hid (Below wa.heap.size wa wb) := kb
  clear kb
  go_wp2_with fail
  refine (CA.out _ (fileN P3) E2 Kb.out (noS_ok _ _ rfl HP3M.out) HE2.out).mono ?_
  rintro e wc ⟨⟨ac, nc, cc, rfl, hXc⟩, kc⟩
  have Kc : Hid (Below w.heap.size w wc) := bel_tr Kb.out kc
  have Bac : Hid (Below wa.heap.size wa wc) := bel_tr Bab.out kc
  have v1 := bel_cell (bel_tr B4b.out kc) V1.out
  clear kc hXc
  go_wp2
  go_ret
  exact ⟨rfl, Kc.out⟩

set_option maxRecDepth 100000 in
set_option maxHeartbeats 2000000 in
theorem core_10_room {w : World} {b off n c : Nat} {xs : NS} {x : NR} {Q kn : Nat} {name P : ByteArray} (A : Ask w b off n xs x Q kn name P) (k : Int) (hk : -9223372036854775808 ≤ k ∧ k ≤ 9223372036854775807) (hneg : k < 0) (hkk : -(k + 1) = (kn : Int)) (hroot : x.1.path ≠ rootP) (hnm : nameB name = true) (hft : fitsB (fileN P) = true) (hat : at? xs P = none) (hdr : x.1.dir = true) (hn60 : n < 60) :
    Calls Try.prog 8 #[.slice (some ⟨b, off, none⟩) n c, .int .i64 k, .string name] w fun e w' => e = .returned (.bool true) ∧ Below w.heap.size w w' := by
  have CR : Hid (∀ W, Below w.heap.size w W → Calls Try.prog 15 #[.slice (some ⟨b, off, none⟩) n c] W fun e w' => e = .returned (.bool true) ∧ Below W.heap.size W w') := fun W hb => right_val (A.nl.below hb) true ⟨fun _ => A.right, fun _ => rfl⟩
  have CF : Hid (∀ W p I, Below w.heap.size w W → findI xs p = I → Calls Try.prog 17 #[.slice (some ⟨b, off, none⟩) n c, .string p] W fun e w' => e = .returned (.int .i64 I) ∧ Below W.heap.size W w') := fun W p I hb hI => find_val (A.nl.below hb) p I hI
  have CA : Hid (∀ W y E, Below w.heap.size w W → NdOk W (y, noS) → AddE xs y E → Calls Try.prog 20 #[.slice (some ⟨b, off, none⟩) n c, ndV (y, noS)] W fun e w' => TwoR W.heap.size (addL xs y E) E e w' ∧ Below W.heap.size W w') := fun W y E hb hy hE => add_val (A.nl.below hb) (y, noS) hy E hE
  have HA : Hid (Ask w b off n xs x Q kn name P) := A
  have c0 := A.c0
  have c1 := A.c1
  have c2 := A.c2
  have c3 := A.c3
  have c4 := A.c4
  have hr1 := A.rem
  have hr2 := A.rem2
  have hlt := A.lt
  have hfew := A.few
  have hshort := A.short
  have hsmall := A.small
  obtain ⟨Q1, hQ1, hq1, hz1⟩ := add_is x.1.path ⟨#[47]⟩ (by show x.1.path.size + 1 ≤ _; omega)
  have hz1' : Q1.size ≤ 121 := by rw [hz1]; show x.1.path.size + 1 ≤ 121; omega
  obtain ⟨P0, hP0, hp0, hz0⟩ := add_is Q1 name (by omega)
  obtain ⟨P2, hP2, hp2, hz2⟩ := add_is ⟨#[47]⟩ name (by show 1 + name.size ≤ _; omega)
  have hPP : P = P0 := by rw [← A.kid, kid_not hroot, hQ1, hP0]
  have hPz : P.size ≤ 140737488355449 := by rw [hPP, hz0]; omega
  rw [← hPP] at hp0
  have e47 : (x.1.path.toList == [47]) = false := by rw [root_eq, decide_eq_false hroot]
  have H6 : Hid (AddE xs (dirN x.1.path) 6) := A.exist hroot
  have e47b := e47
  obtain ⟨P3, hP3, hp3, hz3⟩ := add_is P ⟨#[47, 121]⟩ (by show P.size + 2 ≤ _; omega)
  have HPM : Hid (P.size ≤ maxLen) := by show P.size ≤ maxLen; unfold maxLen; omega
  have HP3M : Hid (P3.size ≤ maxLen) := by show P3.size ≤ maxLen; rw [hz3]; show P.size + 2 ≤ maxLen; unfold maxLen; omega
  have HNM : Hid (name.size ≤ maxLen) := by show name.size ≤ maxLen; unfold maxLen; omega
  have HQM : Hid (x.1.path.size ≤ maxLen) := by show x.1.path.size ≤ maxLen; unfold maxLen; omega
  have HN1 : Hid _ := hnm
  have HF1 : Hid _ := hft
  have HI : Hid (findI xs P = -1) := find_neg hat
  obtain ⟨g1, g2, g3⟩ := A.par hnm hft
  obtain ⟨E2, hE2⟩ := addE_any xs (fileN P3)
  have hE20 : E2 ≠ 0 := no_deeper g2 g3 hat (by rw [show P ++ sY = P3 from hP3]; exact hE2)
  have HE2 : Hid (AddE xs (fileN P3) E2) := hE2
  have hE2b : (E2 != 0) = true := by simpa using hE20
  have HE1 : Hid (AddE xs (fileN P) 0) := .ok A.right hft g3 hat (by show dirE xs (parD P) = _; rw [g1, A.dirE, hdr]; rfl) (by rw [A.len]; omega)
  obtain ⟨J, hJ, _⟩ := find_pos (xs := sortN (xs ++ [fileN P])) (p := P) (at_ex.2 ⟨fileN P, sortN_mem.2 (by simp), rfl⟩)
  have HJ : Hid (findI (sortN (xs ++ [fileN P])) P = (J : Int)) := hJ
  have HADD : Hid (addL xs (fileN P) 0 = sortN (xs ++ [fileN P])) := rfl
  have hnb : ((n : Int) == 60) = false := by simp; omega
  obtain ⟨⟨q, d, qu, bs, wr⟩, ⟨sa, sn, sc⟩⟩ := x
  simp only at *
  subst hdr
  have hst := run_store_str
  have hst2 : ∀ (w : World) (a : Addr) (x : Option Addr) (n c : Nat) (m : Mode), (store a (.slice x n c) m).run Try.prog w = stored Try.prog w a (.slice x n c) m := fun w a x n c m => run_store_any w a _ m rfl
  have HC0 : Hid _ := c0
  have HC1 : Hid _ := c1
  have HC2 : Hid _ := c2
  have HC3 : Hid _ := c3
  have HC4 : Hid _ := c4
  clear A hQ1 hz1 hP0 hz0 hP2 hz2 hPP hP3 hz3 hnm hroot hft hat g1 g2 g3 hE2 hE20 hJ hn60 c0 c1 c2 c3 c4 hshort hsmall hz1' hPz
  go_enter Try.func8, Try.ntmps8
  go_wp2_with fail
  refine (examples_val _).mono ?_
  rintro e w1 ⟨rfl, k1⟩
  have K1 : Hid (Below w.heap.size w w1) := k1
  clear k1
  go_wp2_with fail
  refine (CR.out _ K1.out).mono ?_
  rintro e w2 ⟨rfl, k2⟩
  have K2 : Hid (Below w.heap.size w w2) := bel_tr K1.out k2
  have y0 := bel_cell K2.out HC0.out
  have y1 := bel_cell K2.out HC1.out
  have y2 := bel_cell K2.out HC2.out
  have y3 := bel_cell K2.out HC3.out
  have y4 := bel_cell K2.out HC4.out
  clear k2 K1
  go_wp2_with fail
  refine (dir_agg q _).mono ?_
  rintro e w3 ⟨rfl, k3⟩
  have K3 : Hid (Below w.heap.size w w3) := bel_tr K2.out (bel_tr (bel_al _ _) k3)
  have z0 := bel_cell k3 (World.cell?_alloc_new w2 _ _ 0)
  have z1 := bel_cell k3 (World.cell?_alloc_new w2 _ _ 1)
  have Z0 : Hid _ := z0
  have Z1 : Hid _ := z1
  clear k3 y0 y1 y2 y3 y4 z0 z1
  go_wp2_with fail
  refine (CA.out _ (dirN q) 6 K3.out (noS_ok _ _ rfl HQM.out) H6.out).mono ?_
  rintro e w4 ⟨⟨a4, n4, c4, rfl, hX4⟩, k4⟩
  have K4 : Hid (Below w.heap.size w w4) := bel_tr K3.out k4
  have z0 : w4.cell? ⟨w2.heap.size, 0, none⟩ = some (.string q) := bel_cell k4 Z0.out
  have z1 : w4.cell? ⟨w2.heap.size, 1, none⟩ = some (.bool true) := bel_cell k4 Z1.out
  have V1 : Hid _ := z1
  clear k4 hX4 Z0 Z1
  go_wp2_with fail
  refine (name_val name true _ HNM.out HN1.out).mono ?_
  rintro e w5 ⟨rfl, hw5⟩
  obtain rfl : w4 = w5 := hw5.symm
  clear z0 z1
  go_wp2_with fail
  refine (file_agg P _).mono ?_
  rintro e w6 ⟨rfl, k6⟩
  have K6 : Hid (Below w.heap.size w w6) := bel_tr K4.out k6
  have B46 : Hid (Below w4.heap.size w4 w6) := k6
  clear k6
  go_wp2_with fail
  refine (fits_val (fileN P, noS) true _ (noS_ok _ _ rfl HPM.out) HF1.out).mono ?_
  rintro e w7 ⟨rfl, k7⟩
  have K7 : Hid (Below w.heap.size w w7) := bel_tr K6.out k7
  have B47 : Hid (Below w4.heap.size w4 w7) := bel_tr B46.out k7
  clear k7
  go_wp2_with fail
  refine (CF.out _ P _ K7.out HI.out).mono ?_
  rintro e w8 ⟨rfl, k8⟩
  have K8 : Hid (Below w.heap.size w w8) := bel_tr K7.out k8
  have B48 : Hid (Below w4.heap.size w4 w8) := bel_tr B47.out k8
  clear k8
  go_wp2_with fail
  refine (file_agg P _).mono ?_
  rintro e w9 ⟨rfl, k9⟩
  have K9 : Hid (Below w.heap.size w w9) := bel_tr K8.out k9
  have B49 : Hid (Below w4.heap.size w4 w9) := bel_tr B48.out k9
  clear k9
  go_wp2_with fail
  refine (CA.out _ (fileN P) 0 K9.out (noS_ok _ _ rfl HPM.out) HE1.out).mono ?_
  rintro e wa ⟨⟨aa, na, ca, rfl, hXa⟩, ka⟩
  have Ka : Hid (Below w.heap.size w wa) := bel_tr K9.out ka
  have B4a : Hid (Below w4.heap.size w4 wa) := bel_tr B49.out ka
  rw [HADD.out] at hXa
  have HXa : Hid (NL wa aa na (sortN (xs ++ [fileN P]))) := hXa.nl
  clear ka hXa
  go_wp2_with fail
  refine (file_agg P3 _).mono ?_
  rintro e wb ⟨rfl, kb⟩
  have Kb : Hid (Below w.heap.size w wb) := bel_tr Ka.out kb
  have B4b : Hid (Below w4.heap.size w4 wb) := bel_tr B4a.out kb
  have Bab : Hid (Below wa.heap.size wa wb) := kb
  clear kb
  go_wp2_with fail
  refine (CA.out _ (fileN P3) E2 Kb.out (noS_ok _ _ rfl HP3M.out) HE2.out).mono ?_
  rintro e wc ⟨⟨ac, nc, cc, rfl, hXc⟩, kc⟩
  have Kc : Hid (Below w.heap.size w wc) := bel_tr Kb.out kc
  have Bac : Hid (Below wa.heap.size wa wc) := bel_tr Bab.out kc
  have v1 := bel_cell (bel_tr B4b.out kc) V1.out
  clear kc hXc
  go_wp2_with fail
  refine (find_val (HXa.out.below Bac.out) P (J : Int) HJ.out).mono ?_
  rintro e wd ⟨rfl, kd⟩
  have Kd : Hid (Below w.heap.size w wd) := bel_tr Kc.out kd
  clear kd
  go_wp2
  go_ret
  exact ⟨rfl, Kd.out⟩

set_option maxRecDepth 100000 in
set_option maxHeartbeats 2000000 in
theorem core_01_noname {w : World} {b off n c : Nat} {xs : NS} {x : NR} {Q kn : Nat} {name P : ByteArray} (A : Ask w b off n xs x Q kn name P) (hkn : (kn : Int) ≤ 9223372036854775807) (hroot : x.1.path = rootP) (hnm : nameB name = false) :
    Calls Try.prog 8 #[.slice (some ⟨b, off, none⟩) n c, .int .i64 (kn : Int), .string name] w fun e w' => e = .returned (.bool true) ∧ Below w.heap.size w w' := by
  have CR : Hid (∀ W, Below w.heap.size w W → Calls Try.prog 15 #[.slice (some ⟨b, off, none⟩) n c] W fun e w' => e = .returned (.bool true) ∧ Below W.heap.size W w') := fun W hb => right_val (A.nl.below hb) true ⟨fun _ => A.right, fun _ => rfl⟩
  have CF : Hid (∀ W p I, Below w.heap.size w W → findI xs p = I → Calls Try.prog 17 #[.slice (some ⟨b, off, none⟩) n c, .string p] W fun e w' => e = .returned (.int .i64 I) ∧ Below W.heap.size W w') := fun W p I hb hI => find_val (A.nl.below hb) p I hI
  have CA : Hid (∀ W y E, Below w.heap.size w W → NdOk W (y, noS) → AddE xs y E → Calls Try.prog 20 #[.slice (some ⟨b, off, none⟩) n c, ndV (y, noS)] W fun e w' => TwoR W.heap.size (addL xs y E) E e w' ∧ Below W.heap.size W w') := fun W y E hb hy hE => add_val (A.nl.below hb) (y, noS) hy E hE
  have HA : Hid (Ask w b off n xs x Q kn name P) := A
  have c0 := A.c0
  have c1 := A.c1
  have c2 := A.c2
  have c3 := A.c3
  have c4 := A.c4
  have hr1 := A.rem
  have hr2 := A.rem2
  have hlt := A.lt
  have hfew := A.few
  have hshort := A.short
  have hsmall := A.small
  obtain ⟨Q1, hQ1, hq1, hz1⟩ := add_is x.1.path ⟨#[47]⟩ (by show x.1.path.size + 1 ≤ _; omega)
  have hz1' : Q1.size ≤ 121 := by rw [hz1]; show x.1.path.size + 1 ≤ 121; omega
  obtain ⟨P0, hP0, hp0, hz0⟩ := add_is Q1 name (by omega)
  obtain ⟨P2, hP2, hp2, hz2⟩ := add_is ⟨#[47]⟩ name (by show 1 + name.size ≤ _; omega)
  have hPP : P = P2 := by rw [← A.kid, hroot, kid_root, hP2]
  have hPz : P.size ≤ 140737488355329 := by rw [hPP, hz2]; show 1 + name.size ≤ _; omega
  rw [← hPP] at hp2
  have e47 : (x.1.path.toList == [47]) = true := by rw [root_eq, decide_eq_true hroot]
  have e47b := e47
  obtain ⟨P3, hP3, hp3, hz3⟩ := add_is P ⟨#[47, 121]⟩ (by show P.size + 2 ≤ _; omega)
  have HPM : Hid (P.size ≤ maxLen) := by show P.size ≤ maxLen; unfold maxLen; omega
  have HP3M : Hid (P3.size ≤ maxLen) := by show P3.size ≤ maxLen; rw [hz3]; show P.size + 2 ≤ maxLen; unfold maxLen; omega
  have HNM : Hid (name.size ≤ maxLen) := by show name.size ≤ maxLen; unfold maxLen; omega
  have HQM : Hid (x.1.path.size ≤ maxLen) := by show x.1.path.size ≤ maxLen; unfold maxLen; omega
  have HN1 : Hid _ := hnm
  obtain ⟨⟨q, d, qu, bs, wr⟩, ⟨sa, sn, sc⟩⟩ := x
  simp only at *
  have hst := run_store_str
  have hst2 : ∀ (w : World) (a : Addr) (x : Option Addr) (n c : Nat) (m : Mode), (store a (.slice x n c) m).run Try.prog w = stored Try.prog w a (.slice x n c) m := fun w a x n c m => run_store_any w a _ m rfl
  have HC0 : Hid _ := c0
  have HC1 : Hid _ := c1
  have HC2 : Hid _ := c2
  have HC3 : Hid _ := c3
  have HC4 : Hid _ := c4
  clear A hQ1 hz1 hP0 hz0 hP2 hz2 hPP hP3 hz3 hnm hroot c0 c1 c2 c3 c4 hshort hsmall hz1' hPz
  go_enter Try.func8, Try.ntmps8
  go_wp2_with fail
  refine (examples_val _).mono ?_
  rintro e w1 ⟨rfl, k1⟩
  have K1 : Hid (Below w.heap.size w w1) := k1
  clear k1
  go_wp2_with fail
  refine (CR.out _ K1.out).mono ?_
  rintro e w2 ⟨rfl, k2⟩
  have K2 : Hid (Below w.heap.size w w2) := bel_tr K1.out k2
  have y0 := bel_cell K2.out HC0.out
  have y1 := bel_cell K2.out HC1.out
  have y2 := bel_cell K2.out HC2.out
  have y3 := bel_cell K2.out HC3.out
  have y4 := bel_cell K2.out HC4.out
  clear k2 K1
  go_wp2_with fail
  refine (name_val name false _ HNM.out HN1.out).mono ?_
  rintro e w4 ⟨rfl, hw4⟩
  have K4 : Hid (Below w.heap.size w w4) := by rw [hw4]; exact bel_tr K2.out (bel_al _ _)
  have V1 : Hid (w4.cell? ⟨w2.heap.size, 1, none⟩ = some (.bool d)) := by show _ = _; rw [hw4]; exact World.cell?_alloc_new w2 _ _ 1
  clear hw4 y0 y1 y2 y3 y4
  go_wp2
  go_ret
  exact ⟨rfl, K4.out⟩

set_option maxRecDepth 100000 in
set_option maxHeartbeats 2000000 in
theorem core_01_nofit {w : World} {b off n c : Nat} {xs : NS} {x : NR} {Q kn : Nat} {name P : ByteArray} (A : Ask w b off n xs x Q kn name P) (hkn : (kn : Int) ≤ 9223372036854775807) (hroot : x.1.path = rootP) (hnm : nameB name = true) (hft : fitsB (fileN P) = false) :
    Calls Try.prog 8 #[.slice (some ⟨b, off, none⟩) n c, .int .i64 (kn : Int), .string name] w fun e w' => e = .returned (.bool true) ∧ Below w.heap.size w w' := by
  have CR : Hid (∀ W, Below w.heap.size w W → Calls Try.prog 15 #[.slice (some ⟨b, off, none⟩) n c] W fun e w' => e = .returned (.bool true) ∧ Below W.heap.size W w') := fun W hb => right_val (A.nl.below hb) true ⟨fun _ => A.right, fun _ => rfl⟩
  have CF : Hid (∀ W p I, Below w.heap.size w W → findI xs p = I → Calls Try.prog 17 #[.slice (some ⟨b, off, none⟩) n c, .string p] W fun e w' => e = .returned (.int .i64 I) ∧ Below W.heap.size W w') := fun W p I hb hI => find_val (A.nl.below hb) p I hI
  have CA : Hid (∀ W y E, Below w.heap.size w W → NdOk W (y, noS) → AddE xs y E → Calls Try.prog 20 #[.slice (some ⟨b, off, none⟩) n c, ndV (y, noS)] W fun e w' => TwoR W.heap.size (addL xs y E) E e w' ∧ Below W.heap.size W w') := fun W y E hb hy hE => add_val (A.nl.below hb) (y, noS) hy E hE
  have HA : Hid (Ask w b off n xs x Q kn name P) := A
  have c0 := A.c0
  have c1 := A.c1
  have c2 := A.c2
  have c3 := A.c3
  have c4 := A.c4
  have hr1 := A.rem
  have hr2 := A.rem2
  have hlt := A.lt
  have hfew := A.few
  have hshort := A.short
  have hsmall := A.small
  obtain ⟨Q1, hQ1, hq1, hz1⟩ := add_is x.1.path ⟨#[47]⟩ (by show x.1.path.size + 1 ≤ _; omega)
  have hz1' : Q1.size ≤ 121 := by rw [hz1]; show x.1.path.size + 1 ≤ 121; omega
  obtain ⟨P0, hP0, hp0, hz0⟩ := add_is Q1 name (by omega)
  obtain ⟨P2, hP2, hp2, hz2⟩ := add_is ⟨#[47]⟩ name (by show 1 + name.size ≤ _; omega)
  have hPP : P = P2 := by rw [← A.kid, hroot, kid_root, hP2]
  have hPz : P.size ≤ 140737488355329 := by rw [hPP, hz2]; show 1 + name.size ≤ _; omega
  rw [← hPP] at hp2
  have e47 : (x.1.path.toList == [47]) = true := by rw [root_eq, decide_eq_true hroot]
  have e47b := e47
  obtain ⟨P3, hP3, hp3, hz3⟩ := add_is P ⟨#[47, 121]⟩ (by show P.size + 2 ≤ _; omega)
  have HPM : Hid (P.size ≤ maxLen) := by show P.size ≤ maxLen; unfold maxLen; omega
  have HP3M : Hid (P3.size ≤ maxLen) := by show P3.size ≤ maxLen; rw [hz3]; show P.size + 2 ≤ maxLen; unfold maxLen; omega
  have HNM : Hid (name.size ≤ maxLen) := by show name.size ≤ maxLen; unfold maxLen; omega
  have HQM : Hid (x.1.path.size ≤ maxLen) := by show x.1.path.size ≤ maxLen; unfold maxLen; omega
  have HN1 : Hid _ := hnm
  have HF1 : Hid _ := hft
  obtain ⟨⟨q, d, qu, bs, wr⟩, ⟨sa, sn, sc⟩⟩ := x
  simp only at *
  have hst := run_store_str
  have hst2 : ∀ (w : World) (a : Addr) (x : Option Addr) (n c : Nat) (m : Mode), (store a (.slice x n c) m).run Try.prog w = stored Try.prog w a (.slice x n c) m := fun w a x n c m => run_store_any w a _ m rfl
  have HC0 : Hid _ := c0
  have HC1 : Hid _ := c1
  have HC2 : Hid _ := c2
  have HC3 : Hid _ := c3
  have HC4 : Hid _ := c4
  clear A hQ1 hz1 hP0 hz0 hP2 hz2 hPP hP3 hz3 hnm hroot hft c0 c1 c2 c3 c4 hshort hsmall hz1' hPz
  go_enter Try.func8, Try.ntmps8
  go_wp2_with fail
  refine (examples_val _).mono ?_
  rintro e w1 ⟨rfl, k1⟩
  have K1 : Hid (Below w.heap.size w w1) := k1
  clear k1
  go_wp2_with fail
  refine (CR.out _ K1.out).mono ?_
  rintro e w2 ⟨rfl, k2⟩
  have K2 : Hid (Below w.heap.size w w2) := bel_tr K1.out k2
  have y0 := bel_cell K2.out HC0.out
  have y1 := bel_cell K2.out HC1.out
  have y2 := bel_cell K2.out HC2.out
  have y3 := bel_cell K2.out HC3.out
  have y4 := bel_cell K2.out HC4.out
  clear k2 K1
  go_wp2_with fail
  refine (name_val name true _ HNM.out HN1.out).mono ?_
  rintro e w4 ⟨rfl, hw4⟩
  have K4 : Hid (Below w.heap.size w w4) := by rw [hw4]; exact bel_tr K2.out (bel_al _ _)
  have V1 : Hid (w4.cell? ⟨w2.heap.size, 1, none⟩ = some (.bool d)) := by show _ = _; rw [hw4]; exact World.cell?_alloc_new w2 _ _ 1
  clear hw4 y0 y1 y2 y3 y4
  go_wp2_with fail
  refine (file_agg P _).mono ?_
  rintro e w6 ⟨rfl, k6⟩
  have K6 : Hid (Below w.heap.size w w6) := bel_tr K4.out k6
  have B46 : Hid (Below w4.heap.size w4 w6) := k6
  clear k6
  go_wp2_with fail
  refine (fits_val (fileN P, noS) false _ (noS_ok _ _ rfl HPM.out) HF1.out).mono ?_
  rintro e w7 ⟨rfl, k7⟩
  have K7 : Hid (Below w.heap.size w w7) := bel_tr K6.out k7
  have B47 : Hid (Below w4.heap.size w4 w7) := bel_tr B46.out k7
  clear k7
  go_wp2
  go_ret
  exact ⟨rfl, K7.out⟩

set_option maxRecDepth 100000 in
set_option maxHeartbeats 2000000 in
theorem core_01_found {w : World} {b off n c : Nat} {xs : NS} {x : NR} {Q kn : Nat} {name P : ByteArray} (A : Ask w b off n xs x Q kn name P) (hkn : (kn : Int) ≤ 9223372036854775807) (hroot : x.1.path = rootP) (hnm : nameB name = true) (hft : fitsB (fileN P) = true) (hat : at? xs P ≠ none) :
    Calls Try.prog 8 #[.slice (some ⟨b, off, none⟩) n c, .int .i64 (kn : Int), .string name] w fun e w' => e = .returned (.bool true) ∧ Below w.heap.size w w' := by
  have CR : Hid (∀ W, Below w.heap.size w W → Calls Try.prog 15 #[.slice (some ⟨b, off, none⟩) n c] W fun e w' => e = .returned (.bool true) ∧ Below W.heap.size W w') := fun W hb => right_val (A.nl.below hb) true ⟨fun _ => A.right, fun _ => rfl⟩
  have CF : Hid (∀ W p I, Below w.heap.size w W → findI xs p = I → Calls Try.prog 17 #[.slice (some ⟨b, off, none⟩) n c, .string p] W fun e w' => e = .returned (.int .i64 I) ∧ Below W.heap.size W w') := fun W p I hb hI => find_val (A.nl.below hb) p I hI
  have CA : Hid (∀ W y E, Below w.heap.size w W → NdOk W (y, noS) → AddE xs y E → Calls Try.prog 20 #[.slice (some ⟨b, off, none⟩) n c, ndV (y, noS)] W fun e w' => TwoR W.heap.size (addL xs y E) E e w' ∧ Below W.heap.size W w') := fun W y E hb hy hE => add_val (A.nl.below hb) (y, noS) hy E hE
  have HA : Hid (Ask w b off n xs x Q kn name P) := A
  have c0 := A.c0
  have c1 := A.c1
  have c2 := A.c2
  have c3 := A.c3
  have c4 := A.c4
  have hr1 := A.rem
  have hr2 := A.rem2
  have hlt := A.lt
  have hfew := A.few
  have hshort := A.short
  have hsmall := A.small
  obtain ⟨Q1, hQ1, hq1, hz1⟩ := add_is x.1.path ⟨#[47]⟩ (by show x.1.path.size + 1 ≤ _; omega)
  have hz1' : Q1.size ≤ 121 := by rw [hz1]; show x.1.path.size + 1 ≤ 121; omega
  obtain ⟨P0, hP0, hp0, hz0⟩ := add_is Q1 name (by omega)
  obtain ⟨P2, hP2, hp2, hz2⟩ := add_is ⟨#[47]⟩ name (by show 1 + name.size ≤ _; omega)
  have hPP : P = P2 := by rw [← A.kid, hroot, kid_root, hP2]
  have hPz : P.size ≤ 140737488355329 := by rw [hPP, hz2]; show 1 + name.size ≤ _; omega
  rw [← hPP] at hp2
  have e47 : (x.1.path.toList == [47]) = true := by rw [root_eq, decide_eq_true hroot]
  have e47b := e47
  obtain ⟨P3, hP3, hp3, hz3⟩ := add_is P ⟨#[47, 121]⟩ (by show P.size + 2 ≤ _; omega)
  have HPM : Hid (P.size ≤ maxLen) := by show P.size ≤ maxLen; unfold maxLen; omega
  have HP3M : Hid (P3.size ≤ maxLen) := by show P3.size ≤ maxLen; rw [hz3]; show P.size + 2 ≤ maxLen; unfold maxLen; omega
  have HNM : Hid (name.size ≤ maxLen) := by show name.size ≤ maxLen; unfold maxLen; omega
  have HQM : Hid (x.1.path.size ≤ maxLen) := by show x.1.path.size ≤ maxLen; unfold maxLen; omega
  have HN1 : Hid _ := hnm
  have HF1 : Hid _ := hft
  obtain ⟨I, hI, _⟩ := find_pos hat
  have HI : Hid _ := hI
  obtain ⟨⟨q, d, qu, bs, wr⟩, ⟨sa, sn, sc⟩⟩ := x
  simp only at *
  have hst := run_store_str
  have hst2 : ∀ (w : World) (a : Addr) (x : Option Addr) (n c : Nat) (m : Mode), (store a (.slice x n c) m).run Try.prog w = stored Try.prog w a (.slice x n c) m := fun w a x n c m => run_store_any w a _ m rfl
  have HC0 : Hid _ := c0
  have HC1 : Hid _ := c1
  have HC2 : Hid _ := c2
  have HC3 : Hid _ := c3
  have HC4 : Hid _ := c4
  clear A hQ1 hz1 hP0 hz0 hP2 hz2 hPP hP3 hz3 hnm hroot hft hat hI c0 c1 c2 c3 c4 hshort hsmall hz1' hPz
  go_enter Try.func8, Try.ntmps8
  go_wp2_with fail
  refine (examples_val _).mono ?_
  rintro e w1 ⟨rfl, k1⟩
  have K1 : Hid (Below w.heap.size w w1) := k1
  clear k1
  go_wp2_with fail
  refine (CR.out _ K1.out).mono ?_
  rintro e w2 ⟨rfl, k2⟩
  have K2 : Hid (Below w.heap.size w w2) := bel_tr K1.out k2
  have y0 := bel_cell K2.out HC0.out
  have y1 := bel_cell K2.out HC1.out
  have y2 := bel_cell K2.out HC2.out
  have y3 := bel_cell K2.out HC3.out
  have y4 := bel_cell K2.out HC4.out
  clear k2 K1
  go_wp2_with fail
  refine (name_val name true _ HNM.out HN1.out).mono ?_
  rintro e w4 ⟨rfl, hw4⟩
  have K4 : Hid (Below w.heap.size w w4) := by rw [hw4]; exact bel_tr K2.out (bel_al _ _)
  have V1 : Hid (w4.cell? ⟨w2.heap.size, 1, none⟩ = some (.bool d)) := by show _ = _; rw [hw4]; exact World.cell?_alloc_new w2 _ _ 1
  clear hw4 y0 y1 y2 y3 y4
  go_wp2_with fail
  refine (file_agg P _).mono ?_
  rintro e w6 ⟨rfl, k6⟩
  have K6 : Hid (Below w.heap.size w w6) := bel_tr K4.out k6
  have B46 : Hid (Below w4.heap.size w4 w6) := k6
  clear k6
  go_wp2_with fail
  refine (fits_val (fileN P, noS) true _ (noS_ok _ _ rfl HPM.out) HF1.out).mono ?_
  rintro e w7 ⟨rfl, k7⟩
  have K7 : Hid (Below w.heap.size w w7) := bel_tr K6.out k7
  have B47 : Hid (Below w4.heap.size w4 w7) := bel_tr B46.out k7
  clear k7
  go_wp2_with fail
  refine (CF.out _ P _ K7.out HI.out).mono ?_
  rintro e w8 ⟨rfl, k8⟩
  have K8 : Hid (Below w.heap.size w w8) := bel_tr K7.out k8
  have B48 : Hid (Below w4.heap.size w4 w8) := bel_tr B47.out k8
  clear k8
  go_wp2
  go_ret
  exact ⟨rfl, K8.out⟩

set_option maxRecDepth 100000 in
set_option maxHeartbeats 2000000 in
theorem core_01_file {w : World} {b off n c : Nat} {xs : NS} {x : NR} {Q kn : Nat} {name P : ByteArray} (A : Ask w b off n xs x Q kn name P) (hkn : (kn : Int) ≤ 9223372036854775807) (hroot : x.1.path = rootP) (hnm : nameB name = true) (hft : fitsB (fileN P) = true) (hat : at? xs P = none) (hdr : x.1.dir = false) :
    Calls Try.prog 8 #[.slice (some ⟨b, off, none⟩) n c, .int .i64 (kn : Int), .string name] w fun e w' => e = .returned (.bool true) ∧ Below w.heap.size w w' := by
  have CR : Hid (∀ W, Below w.heap.size w W → Calls Try.prog 15 #[.slice (some ⟨b, off, none⟩) n c] W fun e w' => e = .returned (.bool true) ∧ Below W.heap.size W w') := fun W hb => right_val (A.nl.below hb) true ⟨fun _ => A.right, fun _ => rfl⟩
  have CF : Hid (∀ W p I, Below w.heap.size w W → findI xs p = I → Calls Try.prog 17 #[.slice (some ⟨b, off, none⟩) n c, .string p] W fun e w' => e = .returned (.int .i64 I) ∧ Below W.heap.size W w') := fun W p I hb hI => find_val (A.nl.below hb) p I hI
  have CA : Hid (∀ W y E, Below w.heap.size w W → NdOk W (y, noS) → AddE xs y E → Calls Try.prog 20 #[.slice (some ⟨b, off, none⟩) n c, ndV (y, noS)] W fun e w' => TwoR W.heap.size (addL xs y E) E e w' ∧ Below W.heap.size W w') := fun W y E hb hy hE => add_val (A.nl.below hb) (y, noS) hy E hE
  have HA : Hid (Ask w b off n xs x Q kn name P) := A
  have c0 := A.c0
  have c1 := A.c1
  have c2 := A.c2
  have c3 := A.c3
  have c4 := A.c4
  have hr1 := A.rem
  have hr2 := A.rem2
  have hlt := A.lt
  have hfew := A.few
  have hshort := A.short
  have hsmall := A.small
  obtain ⟨Q1, hQ1, hq1, hz1⟩ := add_is x.1.path ⟨#[47]⟩ (by show x.1.path.size + 1 ≤ _; omega)
  have hz1' : Q1.size ≤ 121 := by rw [hz1]; show x.1.path.size + 1 ≤ 121; omega
  obtain ⟨P0, hP0, hp0, hz0⟩ := add_is Q1 name (by omega)
  obtain ⟨P2, hP2, hp2, hz2⟩ := add_is ⟨#[47]⟩ name (by show 1 + name.size ≤ _; omega)
  have hPP : P = P2 := by rw [← A.kid, hroot, kid_root, hP2]
  have hPz : P.size ≤ 140737488355329 := by rw [hPP, hz2]; show 1 + name.size ≤ _; omega
  rw [← hPP] at hp2
  have e47 : (x.1.path.toList == [47]) = true := by rw [root_eq, decide_eq_true hroot]
  have e47b := e47
  obtain ⟨P3, hP3, hp3, hz3⟩ := add_is P ⟨#[47, 121]⟩ (by show P.size + 2 ≤ _; omega)
  have HPM : Hid (P.size ≤ maxLen) := by show P.size ≤ maxLen; unfold maxLen; omega
  have HP3M : Hid (P3.size ≤ maxLen) := by show P3.size ≤ maxLen; rw [hz3]; show P.size + 2 ≤ maxLen; unfold maxLen; omega
  have HNM : Hid (name.size ≤ maxLen) := by show name.size ≤ maxLen; unfold maxLen; omega
  have HQM : Hid (x.1.path.size ≤ maxLen) := by show x.1.path.size ≤ maxLen; unfold maxLen; omega
  have HN1 : Hid _ := hnm
  have HF1 : Hid _ := hft
  have HI : Hid (findI xs P = -1) := find_neg hat
  obtain ⟨g1, g2, g3⟩ := A.par hnm hft
  obtain ⟨E2, hE2⟩ := addE_any xs (fileN P3)
  have hE20 : E2 ≠ 0 := no_deeper g2 g3 hat (by rw [show P ++ sY = P3 from hP3]; exact hE2)
  have HE2 : Hid (AddE xs (fileN P3) E2) := hE2
  have hE2b : (E2 != 0) = true := by simpa using hE20
  have HE1 : Hid (AddE xs (fileN P) 7) := .par 7 A.right hft g3 hat (by show dirE xs (parD P) = _; rw [g1, A.dirE, hdr]; rfl) (by decide)
  obtain ⟨⟨q, d, qu, bs, wr⟩, ⟨sa, sn, sc⟩⟩ := x
  simp only at *
  subst hdr
  have hst := run_store_str
  have hst2 : ∀ (w : World) (a : Addr) (x : Option Addr) (n c : Nat) (m : Mode), (store a (.slice x n c) m).run Try.prog w = stored Try.prog w a (.slice x n c) m := fun w a x n c m => run_store_any w a _ m rfl
  have HC0 : Hid _ := c0
  have HC1 : Hid _ := c1
  have HC2 : Hid _ := c2
  have HC3 : Hid _ := c3
  have HC4 : Hid _ := c4
  clear A hQ1 hz1 hP0 hz0 hP2 hz2 hPP hP3 hz3 hnm hroot hft hat g1 g2 g3 hE2 hE20 c0 c1 c2 c3 c4 hshort hsmall hz1' hPz
  go_enter Try.func8, Try.ntmps8
  go_wp2_with fail
  refine (examples_val _).mono ?_
  rintro e w1 ⟨rfl, k1⟩
  have K1 : Hid (Below w.heap.size w w1) := k1
  clear k1
  go_wp2_with fail
  refine (CR.out _ K1.out).mono ?_
  rintro e w2 ⟨rfl, k2⟩
  have K2 : Hid (Below w.heap.size w w2) := bel_tr K1.out k2
  have y0 := bel_cell K2.out HC0.out
  have y1 := bel_cell K2.out HC1.out
  have y2 := bel_cell K2.out HC2.out
  have y3 := bel_cell K2.out HC3.out
  have y4 := bel_cell K2.out HC4.out
  clear k2 K1
  go_wp2_with fail
  refine (name_val name true _ HNM.out HN1.out).mono ?_
  rintro e w4 ⟨rfl, hw4⟩
  have K4 : Hid (Below w.heap.size w w4) := by rw [hw4]; exact bel_tr K2.out (bel_al _ _)
  have V1 : Hid (w4.cell? ⟨w2.heap.size, 1, none⟩ = some (.bool false)) := by show _ = _; rw [hw4]; exact World.cell?_alloc_new w2 _ _ 1
  clear hw4 y0 y1 y2 y3 y4
  go_wp2_with fail
  refine (file_agg P _).mono ?_
  rintro e w6 ⟨rfl, k6⟩
  have K6 : Hid (Below w.heap.size w w6) := bel_tr K4.out k6
  have B46 : Hid (Below w4.heap.size w4 w6) := k6
  clear k6
  go_wp2_with fail
  refine (fits_val (fileN P, noS) true _ (noS_ok _ _ rfl HPM.out) HF1.out).mono ?_
  rintro e w7 ⟨rfl, k7⟩
  have K7 : Hid (Below w.heap.size w w7) := bel_tr K6.out k7
  have B47 : Hid (Below w4.heap.size w4 w7) := bel_tr B46.out k7
  clear k7
  go_wp2_with fail
  refine (CF.out _ P _ K7.out HI.out).mono ?_
  rintro e w8 ⟨rfl, k8⟩
  have K8 : Hid (Below w.heap.size w w8) := bel_tr K7.out k8
  have B48 : Hid (Below w4.heap.size w4 w8) := bel_tr B47.out k8
  clear k8
  go_wp2_with fail
  refine (file_agg P _).mono ?_
  rintro e w9 ⟨rfl, k9⟩
  have K9 : Hid (Below w.heap.size w w9) := bel_tr K8.out k9
  have B49 : Hid (Below w4.heap.size w4 w9) := bel_tr B48.out k9
  clear k9
  go_wp2_with fail
  refine (CA.out _ (fileN P) 7 K9.out (noS_ok _ _ rfl HPM.out) HE1.out).mono ?_
  rintro e wa ⟨⟨aa, na, ca, rfl, hXa⟩, ka⟩
  have Ka : Hid (Below w.heap.size w wa) := bel_tr K9.out ka
  have B4a : Hid (Below w4.heap.size w4 wa) := bel_tr B49.out ka
  clear ka hXa
  go_wp2_with fail
  refine (file_agg P3 _).mono ?_
  rintro e wb ⟨rfl, kb⟩
  have Kb : Hid (Below w.heap.size w wb) := bel_tr Ka.out kb
  have B4b : Hid (Below w4.heap.size w4 wb) := bel_tr B4a.out kb
  have Bab : Hid (Below wa.heap.size wa wb) := kb
  clear kb
  go_wp2_with fail
  refine (CA.out _ (fileN P3) E2 Kb.out (noS_ok _ _ rfl HP3M.out) HE2.out).mono ?_
  rintro e wc ⟨⟨ac, nc, cc, rfl, hXc⟩, kc⟩
  have Kc : Hid (Below w.heap.size w wc) := bel_tr Kb.out kc
  have Bac : Hid (Below wa.heap.size wa wc) := bel_tr Bab.out kc
  have v1 := bel_cell (bel_tr B4b.out kc) V1.out
  clear kc hXc
  go_wp2
  go_ret
  exact ⟨rfl, Kc.out⟩

set_option maxRecDepth 100000 in
set_option maxHeartbeats 2000000 in
theorem core_01_full {w : World} {b off n c : Nat} {xs : NS} {x : NR} {Q kn : Nat} {name P : ByteArray} (A : Ask w b off n xs x Q kn name P) (hkn : (kn : Int) ≤ 9223372036854775807) (hroot : x.1.path = rootP) (hnm : nameB name = true) (hft : fitsB (fileN P) = true) (hat : at? xs P = none) (hdr : x.1.dir = true) (hn60 : n = 60) :
    Calls Try.prog 8 #[.slice (some ⟨b, off, none⟩) n c, .int .i64 (kn : Int), .string name] w fun e w' => e = .returned (.bool true) ∧ Below w.heap.size w w' := by
  have CR : Hid (∀ W, Below w.heap.size w W → Calls Try.prog 15 #[.slice (some ⟨b, off, none⟩) n c] W fun e w' => e = .returned (.bool true) ∧ Below W.heap.size W w') := fun W hb => right_val (A.nl.below hb) true ⟨fun _ => A.right, fun _ => rfl⟩
  have CF : Hid (∀ W p I, Below w.heap.size w W → findI xs p = I → Calls Try.prog 17 #[.slice (some ⟨b, off, none⟩) n c, .string p] W fun e w' => e = .returned (.int .i64 I) ∧ Below W.heap.size W w') := fun W p I hb hI => find_val (A.nl.below hb) p I hI
  have CA : Hid (∀ W y E, Below w.heap.size w W → NdOk W (y, noS) → AddE xs y E → Calls Try.prog 20 #[.slice (some ⟨b, off, none⟩) n c, ndV (y, noS)] W fun e w' => TwoR W.heap.size (addL xs y E) E e w' ∧ Below W.heap.size W w') := fun W y E hb hy hE => add_val (A.nl.below hb) (y, noS) hy E hE
  have HA : Hid (Ask w b off n xs x Q kn name P) := A
  have c0 := A.c0
  have c1 := A.c1
  have c2 := A.c2
  have c3 := A.c3
  have c4 := A.c4
  have hr1 := A.rem
  have hr2 := A.rem2
  have hlt := A.lt
  have hfew := A.few
  have hshort := A.short
  have hsmall := A.small
  obtain ⟨Q1, hQ1, hq1, hz1⟩ := add_is x.1.path ⟨#[47]⟩ (by show x.1.path.size + 1 ≤ _; omega)
  have hz1' : Q1.size ≤ 121 := by rw [hz1]; show x.1.path.size + 1 ≤ 121; omega
  obtain ⟨P0, hP0, hp0, hz0⟩ := add_is Q1 name (by omega)
  obtain ⟨P2, hP2, hp2, hz2⟩ := add_is ⟨#[47]⟩ name (by show 1 + name.size ≤ _; omega)
  have hPP : P = P2 := by rw [← A.kid, hroot, kid_root, hP2]
  have hPz : P.size ≤ 140737488355329 := by rw [hPP, hz2]; show 1 + name.size ≤ _; omega
  rw [← hPP] at hp2
  have e47 : (x.1.path.toList == [47]) = true := by rw [root_eq, decide_eq_true hroot]
  have e47b := e47
  obtain ⟨P3, hP3, hp3, hz3⟩ := add_is P ⟨#[47, 121]⟩ (by show P.size + 2 ≤ _; omega)
  have HPM : Hid (P.size ≤ maxLen) := by show P.size ≤ maxLen; unfold maxLen; omega
  have HP3M : Hid (P3.size ≤ maxLen) := by show P3.size ≤ maxLen; rw [hz3]; show P.size + 2 ≤ maxLen; unfold maxLen; omega
  have HNM : Hid (name.size ≤ maxLen) := by show name.size ≤ maxLen; unfold maxLen; omega
  have HQM : Hid (x.1.path.size ≤ maxLen) := by show x.1.path.size ≤ maxLen; unfold maxLen; omega
  have HN1 : Hid _ := hnm
  have HF1 : Hid _ := hft
  have HI : Hid (findI xs P = -1) := find_neg hat
  obtain ⟨g1, g2, g3⟩ := A.par hnm hft
  obtain ⟨E2, hE2⟩ := addE_any xs (fileN P3)
  have hE20 : E2 ≠ 0 := no_deeper g2 g3 hat (by rw [show P ++ sY = P3 from hP3]; exact hE2)
  have HE2 : Hid (AddE xs (fileN P3) E2) := hE2
  have hE2b : (E2 != 0) = true := by simpa using hE20
  have HE1 : Hid (AddE xs (fileN P) 4) := .long A.right hft g3 hat (by show dirE xs (parD P) = _; rw [g1, A.dirE, hdr]; rfl) (by rw [A.len]; omega)
  have hnb : ((n : Int) == 60) = true := by simp; omega
  obtain ⟨⟨q, d, qu, bs, wr⟩, ⟨sa, sn, sc⟩⟩ := x
  simp only at *
  subst hdr
  have hst := run_store_str
  have hst2 : ∀ (w : World) (a : Addr) (x : Option Addr) (n c : Nat) (m : Mode), (store a (.slice x n c) m).run Try.prog w = stored Try.prog w a (.slice x n c) m := fun w a x n c m => run_store_any w a _ m rfl
  have HC0 : Hid _ := c0
  have HC1 : Hid _ := c1
  have HC2 : Hid _ := c2
  have HC3 : Hid _ := c3
  have HC4 : Hid _ := c4
  clear A hQ1 hz1 hP0 hz0 hP2 hz2 hPP hP3 hz3 hnm hroot hft hat g1 g2 g3 hE2 hE20 hn60 c0 c1 c2 c3 c4 hshort hsmall hz1' hPz
  go_enter Try.func8, Try.ntmps8
  go_wp2_with fail
  refine (examples_val _).mono ?_
  rintro e w1 ⟨rfl, k1⟩
  have K1 : Hid (Below w.heap.size w w1) := k1
  clear k1
  go_wp2_with fail
  refine (CR.out _ K1.out).mono ?_
  rintro e w2 ⟨rfl, k2⟩
  have K2 : Hid (Below w.heap.size w w2) := bel_tr K1.out k2
  have y0 := bel_cell K2.out HC0.out
  have y1 := bel_cell K2.out HC1.out
  have y2 := bel_cell K2.out HC2.out
  have y3 := bel_cell K2.out HC3.out
  have y4 := bel_cell K2.out HC4.out
  clear k2 K1
  go_wp2_with fail
  refine (name_val name true _ HNM.out HN1.out).mono ?_
  rintro e w4 ⟨rfl, hw4⟩
  have K4 : Hid (Below w.heap.size w w4) := by rw [hw4]; exact bel_tr K2.out (bel_al _ _)
  have V1 : Hid (w4.cell? ⟨w2.heap.size, 1, none⟩ = some (.bool true)) := by show _ = _; rw [hw4]; exact World.cell?_alloc_new w2 _ _ 1
  clear hw4 y0 y1 y2 y3 y4
  go_wp2_with fail
  refine (file_agg P _).mono ?_
  rintro e w6 ⟨rfl, k6⟩
  have K6 : Hid (Below w.heap.size w w6) := bel_tr K4.out k6
  have B46 : Hid (Below w4.heap.size w4 w6) := k6
  clear k6
  go_wp2_with fail
  refine (fits_val (fileN P, noS) true _ (noS_ok _ _ rfl HPM.out) HF1.out).mono ?_
  rintro e w7 ⟨rfl, k7⟩
  have K7 : Hid (Below w.heap.size w w7) := bel_tr K6.out k7
  have B47 : Hid (Below w4.heap.size w4 w7) := bel_tr B46.out k7
  clear k7
  go_wp2_with fail
  refine (CF.out _ P _ K7.out HI.out).mono ?_
  rintro e w8 ⟨rfl, k8⟩
  have K8 : Hid (Below w.heap.size w w8) := bel_tr K7.out k8
  have B48 : Hid (Below w4.heap.size w4 w8) := bel_tr B47.out k8
  clear k8
  go_wp2_with fail
  refine (file_agg P _).mono ?_
  rintro e w9 ⟨rfl, k9⟩
  have K9 : Hid (Below w.heap.size w w9) := bel_tr K8.out k9
  have B49 : Hid (Below w4.heap.size w4 w9) := bel_tr B48.out k9
  clear k9
  go_wp2_with fail
  refine (CA.out _ (fileN P) 4 K9.out (noS_ok _ _ rfl HPM.out) HE1.out).mono ?_
  rintro e wa ⟨⟨aa, na, ca, rfl, hXa⟩, ka⟩
  have Ka : Hid (Below w.heap.size w wa) := bel_tr K9.out ka
  have B4a : Hid (Below w4.heap.size w4 wa) := bel_tr B49.out ka
  clear ka hXa
  go_wp2_with fail
  refine (file_agg P3 _).mono ?_
  rintro e wb ⟨rfl, kb⟩
  have Kb : Hid (Below w.heap.size w wb) := bel_tr Ka.out kb
  have B4b : Hid (Below w4.heap.size w4 wb) := bel_tr B4a.out kb
  have Bab : Hid (Below wa.heap.size wa wb) := kb
  clear kb
  go_wp2_with fail
  refine (CA.out _ (fileN P3) E2 Kb.out (noS_ok _ _ rfl HP3M.out) HE2.out).mono ?_
  rintro e wc ⟨⟨ac, nc, cc, rfl, hXc⟩, kc⟩
  have Kc : Hid (Below w.heap.size w wc) := bel_tr Kb.out kc
  have Bac : Hid (Below wa.heap.size wa wc) := bel_tr Bab.out kc
  have v1 := bel_cell (bel_tr B4b.out kc) V1.out
  clear kc hXc
  go_wp2
  go_ret
  exact ⟨rfl, Kc.out⟩

set_option maxRecDepth 100000 in
set_option maxHeartbeats 2000000 in
theorem core_01_room {w : World} {b off n c : Nat} {xs : NS} {x : NR} {Q kn : Nat} {name P : ByteArray} (A : Ask w b off n xs x Q kn name P) (hkn : (kn : Int) ≤ 9223372036854775807) (hroot : x.1.path = rootP) (hnm : nameB name = true) (hft : fitsB (fileN P) = true) (hat : at? xs P = none) (hdr : x.1.dir = true) (hn60 : n < 60) :
    Calls Try.prog 8 #[.slice (some ⟨b, off, none⟩) n c, .int .i64 (kn : Int), .string name] w fun e w' => e = .returned (.bool true) ∧ Below w.heap.size w w' := by
  have CR : Hid (∀ W, Below w.heap.size w W → Calls Try.prog 15 #[.slice (some ⟨b, off, none⟩) n c] W fun e w' => e = .returned (.bool true) ∧ Below W.heap.size W w') := fun W hb => right_val (A.nl.below hb) true ⟨fun _ => A.right, fun _ => rfl⟩
  have CF : Hid (∀ W p I, Below w.heap.size w W → findI xs p = I → Calls Try.prog 17 #[.slice (some ⟨b, off, none⟩) n c, .string p] W fun e w' => e = .returned (.int .i64 I) ∧ Below W.heap.size W w') := fun W p I hb hI => find_val (A.nl.below hb) p I hI
  have CA : Hid (∀ W y E, Below w.heap.size w W → NdOk W (y, noS) → AddE xs y E → Calls Try.prog 20 #[.slice (some ⟨b, off, none⟩) n c, ndV (y, noS)] W fun e w' => TwoR W.heap.size (addL xs y E) E e w' ∧ Below W.heap.size W w') := fun W y E hb hy hE => add_val (A.nl.below hb) (y, noS) hy E hE
  have HA : Hid (Ask w b off n xs x Q kn name P) := A
  have c0 := A.c0
  have c1 := A.c1
  have c2 := A.c2
  have c3 := A.c3
  have c4 := A.c4
  have hr1 := A.rem
  have hr2 := A.rem2
  have hlt := A.lt
  have hfew := A.few
  have hshort := A.short
  have hsmall := A.small
  obtain ⟨Q1, hQ1, hq1, hz1⟩ := add_is x.1.path ⟨#[47]⟩ (by show x.1.path.size + 1 ≤ _; omega)
  have hz1' : Q1.size ≤ 121 := by rw [hz1]; show x.1.path.size + 1 ≤ 121; omega
  obtain ⟨P0, hP0, hp0, hz0⟩ := add_is Q1 name (by omega)
  obtain ⟨P2, hP2, hp2, hz2⟩ := add_is ⟨#[47]⟩ name (by show 1 + name.size ≤ _; omega)
  have hPP : P = P2 := by rw [← A.kid, hroot, kid_root, hP2]
  have hPz : P.size ≤ 140737488355329 := by rw [hPP, hz2]; show 1 + name.size ≤ _; omega
  rw [← hPP] at hp2
  have e47 : (x.1.path.toList == [47]) = true := by rw [root_eq, decide_eq_true hroot]
  have e47b := e47
  obtain ⟨P3, hP3, hp3, hz3⟩ := add_is P ⟨#[47, 121]⟩ (by show P.size + 2 ≤ _; omega)
  have HPM : Hid (P.size ≤ maxLen) := by show P.size ≤ maxLen; unfold maxLen; omega
  have HP3M : Hid (P3.size ≤ maxLen) := by show P3.size ≤ maxLen; rw [hz3]; show P.size + 2 ≤ maxLen; unfold maxLen; omega
  have HNM : Hid (name.size ≤ maxLen) := by show name.size ≤ maxLen; unfold maxLen; omega
  have HQM : Hid (x.1.path.size ≤ maxLen) := by show x.1.path.size ≤ maxLen; unfold maxLen; omega
  have HN1 : Hid _ := hnm
  have HF1 : Hid _ := hft
  have HI : Hid (findI xs P = -1) := find_neg hat
  obtain ⟨g1, g2, g3⟩ := A.par hnm hft
  obtain ⟨E2, hE2⟩ := addE_any xs (fileN P3)
  have hE20 : E2 ≠ 0 := no_deeper g2 g3 hat (by rw [show P ++ sY = P3 from hP3]; exact hE2)
  have HE2 : Hid (AddE xs (fileN P3) E2) := hE2
  have hE2b : (E2 != 0) = true := by simpa using hE20
  have HE1 : Hid (AddE xs (fileN P) 0) := .ok A.right hft g3 hat (by show dirE xs (parD P) = _; rw [g1, A.dirE, hdr]; rfl) (by rw [A.len]; omega)
  obtain ⟨J, hJ, _⟩ := find_pos (xs := sortN (xs ++ [fileN P])) (p := P) (at_ex.2 ⟨fileN P, sortN_mem.2 (by simp), rfl⟩)
  have HJ : Hid (findI (sortN (xs ++ [fileN P])) P = (J : Int)) := hJ
  have HADD : Hid (addL xs (fileN P) 0 = sortN (xs ++ [fileN P])) := rfl
  have hnb : ((n : Int) == 60) = false := by simp; omega
  obtain ⟨⟨q, d, qu, bs, wr⟩, ⟨sa, sn, sc⟩⟩ := x
  simp only at *
  subst hdr
  have hst := run_store_str
  have hst2 : ∀ (w : World) (a : Addr) (x : Option Addr) (n c : Nat) (m : Mode), (store a (.slice x n c) m).run Try.prog w = stored Try.prog w a (.slice x n c) m := fun w a x n c m => run_store_any w a _ m rfl
  have HC0 : Hid _ := c0
  have HC1 : Hid _ := c1
  have HC2 : Hid _ := c2
  have HC3 : Hid _ := c3
  have HC4 : Hid _ := c4
  clear A hQ1 hz1 hP0 hz0 hP2 hz2 hPP hP3 hz3 hnm hroot hft hat g1 g2 g3 hE2 hE20 hJ hn60 c0 c1 c2 c3 c4 hshort hsmall hz1' hPz
  go_enter Try.func8, Try.ntmps8
  go_wp2_with fail
  refine (examples_val _).mono ?_
  rintro e w1 ⟨rfl, k1⟩
  have K1 : Hid (Below w.heap.size w w1) := k1
  clear k1
  go_wp2_with fail
  refine (CR.out _ K1.out).mono ?_
  rintro e w2 ⟨rfl, k2⟩
  have K2 : Hid (Below w.heap.size w w2) := bel_tr K1.out k2
  have y0 := bel_cell K2.out HC0.out
  have y1 := bel_cell K2.out HC1.out
  have y2 := bel_cell K2.out HC2.out
  have y3 := bel_cell K2.out HC3.out
  have y4 := bel_cell K2.out HC4.out
  clear k2 K1
  go_wp2_with fail
  refine (name_val name true _ HNM.out HN1.out).mono ?_
  rintro e w4 ⟨rfl, hw4⟩
  have K4 : Hid (Below w.heap.size w w4) := by rw [hw4]; exact bel_tr K2.out (bel_al _ _)
  have V1 : Hid (w4.cell? ⟨w2.heap.size, 1, none⟩ = some (.bool true)) := by show _ = _; rw [hw4]; exact World.cell?_alloc_new w2 _ _ 1
  clear hw4 y0 y1 y2 y3 y4
  go_wp2_with fail
  refine (file_agg P _).mono ?_
  rintro e w6 ⟨rfl, k6⟩
  have K6 : Hid (Below w.heap.size w w6) := bel_tr K4.out k6
  have B46 : Hid (Below w4.heap.size w4 w6) := k6
  clear k6
  go_wp2_with fail
  refine (fits_val (fileN P, noS) true _ (noS_ok _ _ rfl HPM.out) HF1.out).mono ?_
  rintro e w7 ⟨rfl, k7⟩
  have K7 : Hid (Below w.heap.size w w7) := bel_tr K6.out k7
  have B47 : Hid (Below w4.heap.size w4 w7) := bel_tr B46.out k7
  clear k7
  go_wp2_with fail
  refine (CF.out _ P _ K7.out HI.out).mono ?_
  rintro e w8 ⟨rfl, k8⟩
  have K8 : Hid (Below w.heap.size w w8) := bel_tr K7.out k8
  have B48 : Hid (Below w4.heap.size w4 w8) := bel_tr B47.out k8
  clear k8
  go_wp2_with fail
  refine (file_agg P _).mono ?_
  rintro e w9 ⟨rfl, k9⟩
  have K9 : Hid (Below w.heap.size w w9) := bel_tr K8.out k9
  have B49 : Hid (Below w4.heap.size w4 w9) := bel_tr B48.out k9
  clear k9
  go_wp2_with fail
  refine (CA.out _ (fileN P) 0 K9.out (noS_ok _ _ rfl HPM.out) HE1.out).mono ?_
  rintro e wa ⟨⟨aa, na, ca, rfl, hXa⟩, ka⟩
  have Ka : Hid (Below w.heap.size w wa) := bel_tr K9.out ka
  have B4a : Hid (Below w4.heap.size w4 wa) := bel_tr B49.out ka
  rw [HADD.out] at hXa
  have HXa : Hid (NL wa aa na (sortN (xs ++ [fileN P]))) := hXa.nl
  clear ka hXa
  go_wp2_with fail
  refine (file_agg P3 _).mono ?_
  rintro e wb ⟨rfl, kb⟩
  have Kb : Hid (Below w.heap.size w wb) := bel_tr Ka.out kb
  have B4b : Hid (Below w4.heap.size w4 wb) := bel_tr B4a.out kb
  have Bab : Hid (Below wa.heap.size wa wb) := kb
  clear kb
  go_wp2_with fail
  refine (CA.out _ (fileN P3) E2 Kb.out (noS_ok _ _ rfl HP3M.out) HE2.out).mono ?_
  rintro e wc ⟨⟨ac, nc, cc, rfl, hXc⟩, kc⟩
  have Kc : Hid (Below w.heap.size w wc) := bel_tr Kb.out kc
  have Bac : Hid (Below wa.heap.size wa wc) := bel_tr Bab.out kc
  have v1 := bel_cell (bel_tr B4b.out kc) V1.out
  clear kc hXc
  go_wp2_with fail
  refine (find_val (HXa.out.below Bac.out) P (J : Int) HJ.out).mono ?_
  rintro e wd ⟨rfl, kd⟩
  have Kd : Hid (Below w.heap.size w wd) := bel_tr Kc.out kd
  clear kd
  go_wp2
  go_ret
  exact ⟨rfl, Kd.out⟩

set_option maxRecDepth 100000 in
set_option maxHeartbeats 2000000 in
theorem core_00_noname {w : World} {b off n c : Nat} {xs : NS} {x : NR} {Q kn : Nat} {name P : ByteArray} (A : Ask w b off n xs x Q kn name P) (hkn : (kn : Int) ≤ 9223372036854775807) (hroot : x.1.path ≠ rootP) (hnm : nameB name = false) :
    Calls Try.prog 8 #[.slice (some ⟨b, off, none⟩) n c, .int .i64 (kn : Int), .string name] w fun e w' => e = .returned (.bool true) ∧ Below w.heap.size w w' := by
  have CR : Hid (∀ W, Below w.heap.size w W → Calls Try.prog 15 #[.slice (some ⟨b, off, none⟩) n c] W fun e w' => e = .returned (.bool true) ∧ Below W.heap.size W w') := fun W hb => right_val (A.nl.below hb) true ⟨fun _ => A.right, fun _ => rfl⟩
  have CF : Hid (∀ W p I, Below w.heap.size w W → findI xs p = I → Calls Try.prog 17 #[.slice (some ⟨b, off, none⟩) n c, .string p] W fun e w' => e = .returned (.int .i64 I) ∧ Below W.heap.size W w') := fun W p I hb hI => find_val (A.nl.below hb) p I hI
  have CA : Hid (∀ W y E, Below w.heap.size w W → NdOk W (y, noS) → AddE xs y E → Calls Try.prog 20 #[.slice (some ⟨b, off, none⟩) n c, ndV (y, noS)] W fun e w' => TwoR W.heap.size (addL xs y E) E e w' ∧ Below W.heap.size W w') := fun W y E hb hy hE => add_val (A.nl.below hb) (y, noS) hy E hE
  have HA : Hid (Ask w b off n xs x Q kn name P) := A
  have c0 := A.c0
  have c1 := A.c1
  have c2 := A.c2
  have c3 := A.c3
  have c4 := A.c4
  have hr1 := A.rem
  have hr2 := A.rem2
  have hlt := A.lt
  have hfew := A.few
  have hshort := A.short
  have hsmall := A.small
  obtain ⟨Q1, hQ1, hq1, hz1⟩ := add_is x.1.path ⟨#[47]⟩ (by show x.1.path.size + 1 ≤ _; omega)
  have hz1' : Q1.size ≤ 121 := by rw [hz1]; show x.1.path.size + 1 ≤ 121; omega
  obtain ⟨P0, hP0, hp0, hz0⟩ := add_is Q1 name (by omega)
  obtain ⟨P2, hP2, hp2, hz2⟩ := add_is ⟨#[47]⟩ name (by show 1 + name.size ≤ _; omega)
  have hPP : P = P0 := by rw [← A.kid, kid_not hroot, hQ1, hP0]
  have hPz : P.size ≤ 140737488355449 := by rw [hPP, hz0]; omega
  rw [← hPP] at hp0
  have e47 : (x.1.path.toList == [47]) = false := by rw [root_eq, decide_eq_false hroot]
  have H6 : Hid (AddE xs (dirN x.1.path) 6) := A.exist hroot
  have e47b := e47
  obtain ⟨P3, hP3, hp3, hz3⟩ := add_is P ⟨#[47, 121]⟩ (by show P.size + 2 ≤ _; omega)
  have HPM : Hid (P.size ≤ maxLen) := by show P.size ≤ maxLen; unfold maxLen; omega
  have HP3M : Hid (P3.size ≤ maxLen) := by show P3.size ≤ maxLen; rw [hz3]; show P.size + 2 ≤ maxLen; unfold maxLen; omega
  have HNM : Hid (name.size ≤ maxLen) := by show name.size ≤ maxLen; unfold maxLen; omega
  have HQM : Hid (x.1.path.size ≤ maxLen) := by show x.1.path.size ≤ maxLen; unfold maxLen; omega
  have HN1 : Hid _ := hnm
  obtain ⟨⟨q, d, qu, bs, wr⟩, ⟨sa, sn, sc⟩⟩ := x
  simp only at *
  have hst := run_store_str
  have hst2 : ∀ (w : World) (a : Addr) (x : Option Addr) (n c : Nat) (m : Mode), (store a (.slice x n c) m).run Try.prog w = stored Try.prog w a (.slice x n c) m := fun w a x n c m => run_store_any w a _ m rfl
  have HC0 : Hid _ := c0
  have HC1 : Hid _ := c1
  have HC2 : Hid _ := c2
  have HC3 : Hid _ := c3
  have HC4 : Hid _ := c4
  clear A hQ1 hz1 hP0 hz0 hP2 hz2 hPP hP3 hz3 hnm hroot c0 c1 c2 c3 c4 hshort hsmall hz1' hPz
  go_enter Try.func8, Try.ntmps8
  go_wp2_with fail
  refine (examples_val _).mono ?_
  rintro e w1 ⟨rfl, k1⟩
  have K1 : Hid (Below w.heap.size w w1) := k1
  clear k1
  go_wp2_with fail
  refine (CR.out _ K1.out).mono ?_
  rintro e w2 ⟨rfl, k2⟩
  have K2 : Hid (Below w.heap.size w w2) := bel_tr K1.out k2
  have y0 := bel_cell K2.out HC0.out
  have y1 := bel_cell K2.out HC1.out
  have y2 := bel_cell K2.out HC2.out
  have y3 := bel_cell K2.out HC3.out
  have y4 := bel_cell K2.out HC4.out
  clear k2 K1
  go_wp2_with fail
  refine (dir_agg q _).mono ?_
  rintro e w3 ⟨rfl, k3⟩
  have K3 : Hid (Below w.heap.size w w3) := bel_tr K2.out (bel_tr (bel_al _ _) k3)
  have z0 := bel_cell k3 (World.cell?_alloc_new w2 _ _ 0)
  have z1 := bel_cell k3 (World.cell?_alloc_new w2 _ _ 1)
  have Z0 : Hid _ := z0
  have Z1 : Hid _ := z1
  clear k3 y0 y1 y2 y3 y4 z0 z1
  go_wp2_with fail
  refine (CA.out _ (dirN q) 6 K3.out (noS_ok _ _ rfl HQM.out) H6.out).mono ?_
  rintro e w4 ⟨⟨a4, n4, c4, rfl, hX4⟩, k4⟩
  have K4 : Hid (Below w.heap.size w w4) := bel_tr K3.out k4
  have z0 : w4.cell? ⟨w2.heap.size, 0, none⟩ = some (.string q) := bel_cell k4 Z0.out
  have z1 : w4.cell? ⟨w2.heap.size, 1, none⟩ = some (.bool d) := bel_cell k4 Z1.out
  have V1 : Hid _ := z1
  clear k4 hX4 Z0 Z1
  go_wp2_with fail
  refine (name_val name false _ HNM.out HN1.out).mono ?_
  rintro e w5 ⟨rfl, hw5⟩
  obtain rfl : w4 = w5 := hw5.symm
  clear z0 z1
  go_wp2
  go_ret
  exact ⟨rfl, K4.out⟩

set_option maxRecDepth 100000 in
set_option maxHeartbeats 2000000 in
theorem core_00_nofit {w : World} {b off n c : Nat} {xs : NS} {x : NR} {Q kn : Nat} {name P : ByteArray} (A : Ask w b off n xs x Q kn name P) (hkn : (kn : Int) ≤ 9223372036854775807) (hroot : x.1.path ≠ rootP) (hnm : nameB name = true) (hft : fitsB (fileN P) = false) :
    Calls Try.prog 8 #[.slice (some ⟨b, off, none⟩) n c, .int .i64 (kn : Int), .string name] w fun e w' => e = .returned (.bool true) ∧ Below w.heap.size w w' := by
  have CR : Hid (∀ W, Below w.heap.size w W → Calls Try.prog 15 #[.slice (some ⟨b, off, none⟩) n c] W fun e w' => e = .returned (.bool true) ∧ Below W.heap.size W w') := fun W hb => right_val (A.nl.below hb) true ⟨fun _ => A.right, fun _ => rfl⟩
  have CF : Hid (∀ W p I, Below w.heap.size w W → findI xs p = I → Calls Try.prog 17 #[.slice (some ⟨b, off, none⟩) n c, .string p] W fun e w' => e = .returned (.int .i64 I) ∧ Below W.heap.size W w') := fun W p I hb hI => find_val (A.nl.below hb) p I hI
  have CA : Hid (∀ W y E, Below w.heap.size w W → NdOk W (y, noS) → AddE xs y E → Calls Try.prog 20 #[.slice (some ⟨b, off, none⟩) n c, ndV (y, noS)] W fun e w' => TwoR W.heap.size (addL xs y E) E e w' ∧ Below W.heap.size W w') := fun W y E hb hy hE => add_val (A.nl.below hb) (y, noS) hy E hE
  have HA : Hid (Ask w b off n xs x Q kn name P) := A
  have c0 := A.c0
  have c1 := A.c1
  have c2 := A.c2
  have c3 := A.c3
  have c4 := A.c4
  have hr1 := A.rem
  have hr2 := A.rem2
  have hlt := A.lt
  have hfew := A.few
  have hshort := A.short
  have hsmall := A.small
  obtain ⟨Q1, hQ1, hq1, hz1⟩ := add_is x.1.path ⟨#[47]⟩ (by show x.1.path.size + 1 ≤ _; omega)
  have hz1' : Q1.size ≤ 121 := by rw [hz1]; show x.1.path.size + 1 ≤ 121; omega
  obtain ⟨P0, hP0, hp0, hz0⟩ := add_is Q1 name (by omega)
  obtain ⟨P2, hP2, hp2, hz2⟩ := add_is ⟨#[47]⟩ name (by show 1 + name.size ≤ _; omega)
  have hPP : P = P0 := by rw [← A.kid, kid_not hroot, hQ1, hP0]
  have hPz : P.size ≤ 140737488355449 := by rw [hPP, hz0]; omega
  rw [← hPP] at hp0
  have e47 : (x.1.path.toList == [47]) = false := by rw [root_eq, decide_eq_false hroot]
  have H6 : Hid (AddE xs (dirN x.1.path) 6) := A.exist hroot
  have e47b := e47
  obtain ⟨P3, hP3, hp3, hz3⟩ := add_is P ⟨#[47, 121]⟩ (by show P.size + 2 ≤ _; omega)
  have HPM : Hid (P.size ≤ maxLen) := by show P.size ≤ maxLen; unfold maxLen; omega
  have HP3M : Hid (P3.size ≤ maxLen) := by show P3.size ≤ maxLen; rw [hz3]; show P.size + 2 ≤ maxLen; unfold maxLen; omega
  have HNM : Hid (name.size ≤ maxLen) := by show name.size ≤ maxLen; unfold maxLen; omega
  have HQM : Hid (x.1.path.size ≤ maxLen) := by show x.1.path.size ≤ maxLen; unfold maxLen; omega
  have HN1 : Hid _ := hnm
  have HF1 : Hid _ := hft
  obtain ⟨⟨q, d, qu, bs, wr⟩, ⟨sa, sn, sc⟩⟩ := x
  simp only at *
  have hst := run_store_str
  have hst2 : ∀ (w : World) (a : Addr) (x : Option Addr) (n c : Nat) (m : Mode), (store a (.slice x n c) m).run Try.prog w = stored Try.prog w a (.slice x n c) m := fun w a x n c m => run_store_any w a _ m rfl
  have HC0 : Hid _ := c0
  have HC1 : Hid _ := c1
  have HC2 : Hid _ := c2
  have HC3 : Hid _ := c3
  have HC4 : Hid _ := c4
  clear A hQ1 hz1 hP0 hz0 hP2 hz2 hPP hP3 hz3 hnm hroot hft c0 c1 c2 c3 c4 hshort hsmall hz1' hPz
  go_enter Try.func8, Try.ntmps8
  go_wp2_with fail
  refine (examples_val _).mono ?_
  rintro e w1 ⟨rfl, k1⟩
  have K1 : Hid (Below w.heap.size w w1) := k1
  clear k1
  go_wp2_with fail
  refine (CR.out _ K1.out).mono ?_
  rintro e w2 ⟨rfl, k2⟩
  have K2 : Hid (Below w.heap.size w w2) := bel_tr K1.out k2
  have y0 := bel_cell K2.out HC0.out
  have y1 := bel_cell K2.out HC1.out
  have y2 := bel_cell K2.out HC2.out
  have y3 := bel_cell K2.out HC3.out
  have y4 := bel_cell K2.out HC4.out
  clear k2 K1
  go_wp2_with fail
  refine (dir_agg q _).mono ?_
  rintro e w3 ⟨rfl, k3⟩
  have K3 : Hid (Below w.heap.size w w3) := bel_tr K2.out (bel_tr (bel_al _ _) k3)
  have z0 := bel_cell k3 (World.cell?_alloc_new w2 _ _ 0)
  have z1 := bel_cell k3 (World.cell?_alloc_new w2 _ _ 1)
  have Z0 : Hid _ := z0
  have Z1 : Hid _ := z1
  clear k3 y0 y1 y2 y3 y4 z0 z1
  go_wp2_with fail
  refine (CA.out _ (dirN q) 6 K3.out (noS_ok _ _ rfl HQM.out) H6.out).mono ?_
  rintro e w4 ⟨⟨a4, n4, c4, rfl, hX4⟩, k4⟩
  have K4 : Hid (Below w.heap.size w w4) := bel_tr K3.out k4
  have z0 : w4.cell? ⟨w2.heap.size, 0, none⟩ = some (.string q) := bel_cell k4 Z0.out
  have z1 : w4.cell? ⟨w2.heap.size, 1, none⟩ = some (.bool d) := bel_cell k4 Z1.out
  have V1 : Hid _ := z1
  clear k4 hX4 Z0 Z1
  go_wp2_with fail
  refine (name_val name true _ HNM.out HN1.out).mono ?_
  rintro e w5 ⟨rfl, hw5⟩
  obtain rfl : w4 = w5 := hw5.symm
  clear z0 z1
  go_wp2_with fail
  refine (file_agg P _).mono ?_
  rintro e w6 ⟨rfl, k6⟩
  have K6 : Hid (Below w.heap.size w w6) := bel_tr K4.out k6
  have B46 : Hid (Below w4.heap.size w4 w6) := k6
  clear k6
  go_wp2_with fail
  refine (fits_val (fileN P, noS) false _ (noS_ok _ _ rfl HPM.out) HF1.out).mono ?_
  rintro e w7 ⟨rfl, k7⟩
  have K7 : Hid (Below w.heap.size w w7) := bel_tr K6.out k7
  have B47 : Hid (Below w4.heap.size w4 w7) := bel_tr B46.out k7
  clear k7
  go_wp2
  go_ret
  exact ⟨rfl, K7.out⟩

set_option maxRecDepth 100000 in
set_option maxHeartbeats 2000000 in
theorem core_00_found {w : World} {b off n c : Nat} {xs : NS} {x : NR} {Q kn : Nat} {name P : ByteArray} (A : Ask w b off n xs x Q kn name P) (hkn : (kn : Int) ≤ 9223372036854775807) (hroot : x.1.path ≠ rootP) (hnm : nameB name = true) (hft : fitsB (fileN P) = true) (hat : at? xs P ≠ none) :
    Calls Try.prog 8 #[.slice (some ⟨b, off, none⟩) n c, .int .i64 (kn : Int), .string name] w fun e w' => e = .returned (.bool true) ∧ Below w.heap.size w w' := by
  have CR : Hid (∀ W, Below w.heap.size w W → Calls Try.prog 15 #[.slice (some ⟨b, off, none⟩) n c] W fun e w' => e = .returned (.bool true) ∧ Below W.heap.size W w') := fun W hb => right_val (A.nl.below hb) true ⟨fun _ => A.right, fun _ => rfl⟩
  have CF : Hid (∀ W p I, Below w.heap.size w W → findI xs p = I → Calls Try.prog 17 #[.slice (some ⟨b, off, none⟩) n c, .string p] W fun e w' => e = .returned (.int .i64 I) ∧ Below W.heap.size W w') := fun W p I hb hI => find_val (A.nl.below hb) p I hI
  have CA : Hid (∀ W y E, Below w.heap.size w W → NdOk W (y, noS) → AddE xs y E → Calls Try.prog 20 #[.slice (some ⟨b, off, none⟩) n c, ndV (y, noS)] W fun e w' => TwoR W.heap.size (addL xs y E) E e w' ∧ Below W.heap.size W w') := fun W y E hb hy hE => add_val (A.nl.below hb) (y, noS) hy E hE
  have HA : Hid (Ask w b off n xs x Q kn name P) := A
  have c0 := A.c0
  have c1 := A.c1
  have c2 := A.c2
  have c3 := A.c3
  have c4 := A.c4
  have hr1 := A.rem
  have hr2 := A.rem2
  have hlt := A.lt
  have hfew := A.few
  have hshort := A.short
  have hsmall := A.small
  obtain ⟨Q1, hQ1, hq1, hz1⟩ := add_is x.1.path ⟨#[47]⟩ (by show x.1.path.size + 1 ≤ _; omega)
  have hz1' : Q1.size ≤ 121 := by rw [hz1]; show x.1.path.size + 1 ≤ 121; omega
  obtain ⟨P0, hP0, hp0, hz0⟩ := add_is Q1 name (by omega)
  obtain ⟨P2, hP2, hp2, hz2⟩ := add_is ⟨#[47]⟩ name (by show 1 + name.size ≤ _; omega)
  have hPP : P = P0 := by rw [← A.kid, kid_not hroot, hQ1, hP0]
  have hPz : P.size ≤ 140737488355449 := by rw [hPP, hz0]; omega
  rw [← hPP] at hp0
  have e47 : (x.1.path.toList == [47]) = false := by rw [root_eq, decide_eq_false hroot]
  have H6 : Hid (AddE xs (dirN x.1.path) 6) := A.exist hroot
  have e47b := e47
  obtain ⟨P3, hP3, hp3, hz3⟩ := add_is P ⟨#[47, 121]⟩ (by show P.size + 2 ≤ _; omega)
  have HPM : Hid (P.size ≤ maxLen) := by show P.size ≤ maxLen; unfold maxLen; omega
  have HP3M : Hid (P3.size ≤ maxLen) := by show P3.size ≤ maxLen; rw [hz3]; show P.size + 2 ≤ maxLen; unfold maxLen; omega
  have HNM : Hid (name.size ≤ maxLen) := by show name.size ≤ maxLen; unfold maxLen; omega
  have HQM : Hid (x.1.path.size ≤ maxLen) := by show x.1.path.size ≤ maxLen; unfold maxLen; omega
  have HN1 : Hid _ := hnm
  have HF1 : Hid _ := hft
  obtain ⟨I, hI, _⟩ := find_pos hat
  have HI : Hid _ := hI
  obtain ⟨⟨q, d, qu, bs, wr⟩, ⟨sa, sn, sc⟩⟩ := x
  simp only at *
  have hst := run_store_str
  have hst2 : ∀ (w : World) (a : Addr) (x : Option Addr) (n c : Nat) (m : Mode), (store a (.slice x n c) m).run Try.prog w = stored Try.prog w a (.slice x n c) m := fun w a x n c m => run_store_any w a _ m rfl
  have HC0 : Hid _ := c0
  have HC1 : Hid _ := c1
  have HC2 : Hid _ := c2
  have HC3 : Hid _ := c3
  have HC4 : Hid _ := c4
  clear A hQ1 hz1 hP0 hz0 hP2 hz2 hPP hP3 hz3 hnm hroot hft hat hI c0 c1 c2 c3 c4 hshort hsmall hz1' hPz
  go_enter Try.func8, Try.ntmps8
  go_wp2_with fail
  refine (examples_val _).mono ?_
  rintro e w1 ⟨rfl, k1⟩
  have K1 : Hid (Below w.heap.size w w1) := k1
  clear k1
  go_wp2_with fail
  refine (CR.out _ K1.out).mono ?_
  rintro e w2 ⟨rfl, k2⟩
  have K2 : Hid (Below w.heap.size w w2) := bel_tr K1.out k2
  have y0 := bel_cell K2.out HC0.out
  have y1 := bel_cell K2.out HC1.out
  have y2 := bel_cell K2.out HC2.out
  have y3 := bel_cell K2.out HC3.out
  have y4 := bel_cell K2.out HC4.out
  clear k2 K1
  go_wp2_with fail
  refine (dir_agg q _).mono ?_
  rintro e w3 ⟨rfl, k3⟩
  have K3 : Hid (Below w.heap.size w w3) := bel_tr K2.out (bel_tr (bel_al _ _) k3)
  have z0 := bel_cell k3 (World.cell?_alloc_new w2 _ _ 0)
  have z1 := bel_cell k3 (World.cell?_alloc_new w2 _ _ 1)
  have Z0 : Hid _ := z0
  have Z1 : Hid _ := z1
  clear k3 y0 y1 y2 y3 y4 z0 z1
  go_wp2_with fail
  refine (CA.out _ (dirN q) 6 K3.out (noS_ok _ _ rfl HQM.out) H6.out).mono ?_
  rintro e w4 ⟨⟨a4, n4, c4, rfl, hX4⟩, k4⟩
  have K4 : Hid (Below w.heap.size w w4) := bel_tr K3.out k4
  have z0 : w4.cell? ⟨w2.heap.size, 0, none⟩ = some (.string q) := bel_cell k4 Z0.out
  have z1 : w4.cell? ⟨w2.heap.size, 1, none⟩ = some (.bool d) := bel_cell k4 Z1.out
  have V1 : Hid _ := z1
  clear k4 hX4 Z0 Z1
  go_wp2_with fail
  refine (name_val name true _ HNM.out HN1.out).mono ?_
  rintro e w5 ⟨rfl, hw5⟩
  obtain rfl : w4 = w5 := hw5.symm
  clear z0 z1
  go_wp2_with fail
  refine (file_agg P _).mono ?_
  rintro e w6 ⟨rfl, k6⟩
  have K6 : Hid (Below w.heap.size w w6) := bel_tr K4.out k6
  have B46 : Hid (Below w4.heap.size w4 w6) := k6
  clear k6
  go_wp2_with fail
  refine (fits_val (fileN P, noS) true _ (noS_ok _ _ rfl HPM.out) HF1.out).mono ?_
  rintro e w7 ⟨rfl, k7⟩
  have K7 : Hid (Below w.heap.size w w7) := bel_tr K6.out k7
  have B47 : Hid (Below w4.heap.size w4 w7) := bel_tr B46.out k7
  clear k7
  go_wp2_with fail
  refine (CF.out _ P _ K7.out HI.out).mono ?_
  rintro e w8 ⟨rfl, k8⟩
  have K8 : Hid (Below w.heap.size w w8) := bel_tr K7.out k8
  have B48 : Hid (Below w4.heap.size w4 w8) := bel_tr B47.out k8
  clear k8
  go_wp2
  go_ret
  exact ⟨rfl, K8.out⟩

set_option maxRecDepth 100000 in
set_option maxHeartbeats 2000000 in
theorem core_00_file {w : World} {b off n c : Nat} {xs : NS} {x : NR} {Q kn : Nat} {name P : ByteArray} (A : Ask w b off n xs x Q kn name P) (hkn : (kn : Int) ≤ 9223372036854775807) (hroot : x.1.path ≠ rootP) (hnm : nameB name = true) (hft : fitsB (fileN P) = true) (hat : at? xs P = none) (hdr : x.1.dir = false) :
    Calls Try.prog 8 #[.slice (some ⟨b, off, none⟩) n c, .int .i64 (kn : Int), .string name] w fun e w' => e = .returned (.bool true) ∧ Below w.heap.size w w' := by
  have CR : Hid (∀ W, Below w.heap.size w W → Calls Try.prog 15 #[.slice (some ⟨b, off, none⟩) n c] W fun e w' => e = .returned (.bool true) ∧ Below W.heap.size W w') := fun W hb => right_val (A.nl.below hb) true ⟨fun _ => A.right, fun _ => rfl⟩
  have CF : Hid (∀ W p I, Below w.heap.size w W → findI xs p = I → Calls Try.prog 17 #[.slice (some ⟨b, off, none⟩) n c, .string p] W fun e w' => e = .returned (.int .i64 I) ∧ Below W.heap.size W w') := fun W p I hb hI => find_val (A.nl.below hb) p I hI
  have CA : Hid (∀ W y E, Below w.heap.size w W → NdOk W (y, noS) → AddE xs y E → Calls Try.prog 20 #[.slice (some ⟨b, off, none⟩) n c, ndV (y, noS)] W fun e w' => TwoR W.heap.size (addL xs y E) E e w' ∧ Below W.heap.size W w') := fun W y E hb hy hE => add_val (A.nl.below hb) (y, noS) hy E hE
  have HA : Hid (Ask w b off n xs x Q kn name P) := A
  have c0 := A.c0
  have c1 := A.c1
  have c2 := A.c2
  have c3 := A.c3
  have c4 := A.c4
  have hr1 := A.rem
  have hr2 := A.rem2
  have hlt := A.lt
  have hfew := A.few
  have hshort := A.short
  have hsmall := A.small
  obtain ⟨Q1, hQ1, hq1, hz1⟩ := add_is x.1.path ⟨#[47]⟩ (by show x.1.path.size + 1 ≤ _; omega)
  have hz1' : Q1.size ≤ 121 := by rw [hz1]; show x.1.path.size + 1 ≤ 121; omega
  obtain ⟨P0, hP0, hp0, hz0⟩ := add_is Q1 name (by omega)
  obtain ⟨P2, hP2, hp2, hz2⟩ := add_is ⟨#[47]⟩ name (by show 1 + name.size ≤ _; omega)
  have hPP : P = P0 := by rw [← A.kid, kid_not hroot, hQ1, hP0]
  have hPz : P.size ≤ 140737488355449 := by rw [hPP, hz0]; omega
  rw [← hPP] at hp0
  have e47 : (x.1.path.toList == [47]) = false := by rw [root_eq, decide_eq_false hroot]
  have H6 : Hid (AddE xs (dirN x.1.path) 6) := A.exist hroot
  have e47b := e47
  obtain ⟨P3, hP3, hp3, hz3⟩ := add_is P ⟨#[47, 121]⟩ (by show P.size + 2 ≤ _; omega)
  have HPM : Hid (P.size ≤ maxLen) := by show P.size ≤ maxLen; unfold maxLen; omega
  have HP3M : Hid (P3.size ≤ maxLen) := by show P3.size ≤ maxLen; rw [hz3]; show P.size + 2 ≤ maxLen; unfold maxLen; omega
  have HNM : Hid (name.size ≤ maxLen) := by show name.size ≤ maxLen; unfold maxLen; omega
  have HQM : Hid (x.1.path.size ≤ maxLen) := by show x.1.path.size ≤ maxLen; unfold maxLen; omega
  have HN1 : Hid _ := hnm
  have HF1 : Hid _ := hft
  have HI : Hid (findI xs P = -1) := find_neg hat
  obtain ⟨g1, g2, g3⟩ := A.par hnm hft
  obtain ⟨E2, hE2⟩ := addE_any xs (fileN P3)
  have hE20 : E2 ≠ 0 := no_deeper g2 g3 hat (by rw [show P ++ sY = P3 from hP3]; exact hE2)
  have HE2 : Hid (AddE xs (fileN P3) E2) := hE2
  have hE2b : (E2 != 0) = true := by simpa using hE20
  have HE1 : Hid (AddE xs (fileN P) 7) := .par 7 A.right hft g3 hat (by show dirE xs (parD P) = _; rw [g1, A.dirE, hdr]; rfl) (by decide)
  obtain ⟨⟨q, d, qu, bs, wr⟩, ⟨sa, sn, sc⟩⟩ := x
  simp only at *
  subst hdr
  have hst := run_store_str
  have hst2 : ∀ (w : World) (a : Addr) (x : Option Addr) (n c : Nat) (m : Mode), (store a (.slice x n c) m).run Try.prog w = stored Try.prog w a (.slice x n c) m := fun w a x n c m => run_store_any w a _ m rfl
  have HC0 : Hid _ := c0
  have HC1 : Hid _ := c1
  have HC2 : Hid _ := c2
  have HC3 : Hid _ := c3
  have HC4 : Hid _ := c4
  clear A hQ1 hz1 hP0 hz0 hP2 hz2 hPP hP3 hz3 hnm hroot hft hat g1 g2 g3 hE2 hE20 c0 c1 c2 c3 c4 hshort hsmall hz1' hPz
  go_enter Try.func8, Try.ntmps8
  go_wp2_with fail
  refine (examples_val _).mono ?_
  rintro e w1 ⟨rfl, k1⟩
  have K1 : Hid (Below w.heap.size w w1) := k1
  clear k1
  go_wp2_with fail
  refine (CR.out _ K1.out).mono ?_
  rintro e w2 ⟨rfl, k2⟩
  have K2 : Hid (Below w.heap.size w w2) := bel_tr K1.out k2
  have y0 := bel_cell K2.out HC0.out
  have y1 := bel_cell K2.out HC1.out
  have y2 := bel_cell K2.out HC2.out
  have y3 := bel_cell K2.out HC3.out
  have y4 := bel_cell K2.out HC4.out
  clear k2 K1
  go_wp2_with fail
  refine (dir_agg q _).mono ?_
  rintro e w3 ⟨rfl, k3⟩
  have K3 : Hid (Below w.heap.size w w3) := bel_tr K2.out (bel_tr (bel_al _ _) k3)
  have z0 := bel_cell k3 (World.cell?_alloc_new w2 _ _ 0)
  have z1 := bel_cell k3 (World.cell?_alloc_new w2 _ _ 1)
  have Z0 : Hid _ := z0
  have Z1 : Hid _ := z1
  clear k3 y0 y1 y2 y3 y4 z0 z1
  go_wp2_with fail
  refine (CA.out _ (dirN q) 6 K3.out (noS_ok _ _ rfl HQM.out) H6.out).mono ?_
  rintro e w4 ⟨⟨a4, n4, c4, rfl, hX4⟩, k4⟩
  have K4 : Hid (Below w.heap.size w w4) := bel_tr K3.out k4
  have z0 : w4.cell? ⟨w2.heap.size, 0, none⟩ = some (.string q) := bel_cell k4 Z0.out
  have z1 : w4.cell? ⟨w2.heap.size, 1, none⟩ = some (.bool false) := bel_cell k4 Z1.out
  have V1 : Hid _ := z1
  clear k4 hX4 Z0 Z1
  go_wp2_with fail
  refine (name_val name true _ HNM.out HN1.out).mono ?_
  rintro e w5 ⟨rfl, hw5⟩
  obtain rfl : w4 = w5 := hw5.symm
  clear z0 z1
  go_wp2_with fail
  refine (file_agg P _).mono ?_
  rintro e w6 ⟨rfl, k6⟩
  have K6 : Hid (Below w.heap.size w w6) := bel_tr K4.out k6
  have B46 : Hid (Below w4.heap.size w4 w6) := k6
  clear k6
  go_wp2_with fail
  refine (fits_val (fileN P, noS) true _ (noS_ok _ _ rfl HPM.out) HF1.out).mono ?_
  rintro e w7 ⟨rfl, k7⟩
  have K7 : Hid (Below w.heap.size w w7) := bel_tr K6.out k7
  have B47 : Hid (Below w4.heap.size w4 w7) := bel_tr B46.out k7
  clear k7
  go_wp2_with fail
  refine (CF.out _ P _ K7.out HI.out).mono ?_
  rintro e w8 ⟨rfl, k8⟩
  have K8 : Hid (Below w.heap.size w w8) := bel_tr K7.out k8
  have B48 : Hid (Below w4.heap.size w4 w8) := bel_tr B47.out k8
  clear k8
  go_wp2_with fail
  refine (file_agg P _).mono ?_
  rintro e w9 ⟨rfl, k9⟩
  have K9 : Hid (Below w.heap.size w w9) := bel_tr K8.out k9
  have B49 : Hid (Below w4.heap.size w4 w9) := bel_tr B48.out k9
  clear k9
  go_wp2_with fail
  refine (CA.out _ (fileN P) 7 K9.out (noS_ok _ _ rfl HPM.out) HE1.out).mono ?_
  rintro e wa ⟨⟨aa, na, ca, rfl, hXa⟩, ka⟩
  have Ka : Hid (Below w.heap.size w wa) := bel_tr K9.out ka
  have B4a : Hid (Below w4.heap.size w4 wa) := bel_tr B49.out ka
  clear ka hXa
  go_wp2_with fail
  refine (file_agg P3 _).mono ?_
  rintro e wb ⟨rfl, kb⟩
  have Kb : Hid (Below w.heap.size w wb) := bel_tr Ka.out kb
  have B4b : Hid (Below w4.heap.size w4 wb) := bel_tr B4a.out kb
  have Bab : Hid (Below wa.heap.size wa wb) := kb
  clear kb
  go_wp2_with fail
  refine (CA.out _ (fileN P3) E2 Kb.out (noS_ok _ _ rfl HP3M.out) HE2.out).mono ?_
  rintro e wc ⟨⟨ac, nc, cc, rfl, hXc⟩, kc⟩
  have Kc : Hid (Below w.heap.size w wc) := bel_tr Kb.out kc
  have Bac : Hid (Below wa.heap.size wa wc) := bel_tr Bab.out kc
  have v1 := bel_cell (bel_tr B4b.out kc) V1.out
  clear kc hXc
  go_wp2
  go_ret
  exact ⟨rfl, Kc.out⟩

set_option maxRecDepth 100000 in
set_option maxHeartbeats 2000000 in
theorem core_00_full {w : World} {b off n c : Nat} {xs : NS} {x : NR} {Q kn : Nat} {name P : ByteArray} (A : Ask w b off n xs x Q kn name P) (hkn : (kn : Int) ≤ 9223372036854775807) (hroot : x.1.path ≠ rootP) (hnm : nameB name = true) (hft : fitsB (fileN P) = true) (hat : at? xs P = none) (hdr : x.1.dir = true) (hn60 : n = 60) :
    Calls Try.prog 8 #[.slice (some ⟨b, off, none⟩) n c, .int .i64 (kn : Int), .string name] w fun e w' => e = .returned (.bool true) ∧ Below w.heap.size w w' := by
  have CR : Hid (∀ W, Below w.heap.size w W → Calls Try.prog 15 #[.slice (some ⟨b, off, none⟩) n c] W fun e w' => e = .returned (.bool true) ∧ Below W.heap.size W w') := fun W hb => right_val (A.nl.below hb) true ⟨fun _ => A.right, fun _ => rfl⟩
  have CF : Hid (∀ W p I, Below w.heap.size w W → findI xs p = I → Calls Try.prog 17 #[.slice (some ⟨b, off, none⟩) n c, .string p] W fun e w' => e = .returned (.int .i64 I) ∧ Below W.heap.size W w') := fun W p I hb hI => find_val (A.nl.below hb) p I hI
  have CA : Hid (∀ W y E, Below w.heap.size w W → NdOk W (y, noS) → AddE xs y E → Calls Try.prog 20 #[.slice (some ⟨b, off, none⟩) n c, ndV (y, noS)] W fun e w' => TwoR W.heap.size (addL xs y E) E e w' ∧ Below W.heap.size W w') := fun W y E hb hy hE => add_val (A.nl.below hb) (y, noS) hy E hE
  have HA : Hid (Ask w b off n xs x Q kn name P) := A
  have c0 := A.c0
  have c1 := A.c1
  have c2 := A.c2
  have c3 := A.c3
  have c4 := A.c4
  have hr1 := A.rem
  have hr2 := A.rem2
  have hlt := A.lt
  have hfew := A.few
  have hshort := A.short
  have hsmall := A.small
  obtain ⟨Q1, hQ1, hq1, hz1⟩ := add_is x.1.path ⟨#[47]⟩ (by show x.1.path.size + 1 ≤ _; omega)
  have hz1' : Q1.size ≤ 121 := by rw [hz1]; show x.1.path.size + 1 ≤ 121; omega
  obtain ⟨P0, hP0, hp0, hz0⟩ := add_is Q1 name (by omega)
  obtain ⟨P2, hP2, hp2, hz2⟩ := add_is ⟨#[47]⟩ name (by show 1 + name.size ≤ _; omega)
  have hPP : P = P0 := by rw [← A.kid, kid_not hroot, hQ1, hP0]
  have hPz : P.size ≤ 140737488355449 := by rw [hPP, hz0]; omega
  rw [← hPP] at hp0
  have e47 : (x.1.path.toList == [47]) = false := by rw [root_eq, decide_eq_false hroot]
  have H6 : Hid (AddE xs (dirN x.1.path) 6) := A.exist hroot
  have e47b := e47
  obtain ⟨P3, hP3, hp3, hz3⟩ := add_is P ⟨#[47, 121]⟩ (by show P.size + 2 ≤ _; omega)
  have HPM : Hid (P.size ≤ maxLen) := by show P.size ≤ maxLen; unfold maxLen; omega
  have HP3M : Hid (P3.size ≤ maxLen) := by show P3.size ≤ maxLen; rw [hz3]; show P.size + 2 ≤ maxLen; unfold maxLen; omega
  have HNM : Hid (name.size ≤ maxLen) := by show name.size ≤ maxLen; unfold maxLen; omega
  have HQM : Hid (x.1.path.size ≤ maxLen) := by show x.1.path.size ≤ maxLen; unfold maxLen; omega
  have HN1 : Hid _ := hnm
  have HF1 : Hid _ := hft
  have HI : Hid (findI xs P = -1) := find_neg hat
  obtain ⟨g1, g2, g3⟩ := A.par hnm hft
  obtain ⟨E2, hE2⟩ := addE_any xs (fileN P3)
  have hE20 : E2 ≠ 0 := no_deeper g2 g3 hat (by rw [show P ++ sY = P3 from hP3]; exact hE2)
  have HE2 : Hid (AddE xs (fileN P3) E2) := hE2
  have hE2b : (E2 != 0) = true := by simpa using hE20
  have HE1 : Hid (AddE xs (fileN P) 4) := .long A.right hft g3 hat (by show dirE xs (parD P) = _; rw [g1, A.dirE, hdr]; rfl) (by rw [A.len]; omega)
  have hnb : ((n : Int) == 60) = true := by simp; omega
  obtain ⟨⟨q, d, qu, bs, wr⟩, ⟨sa, sn, sc⟩⟩ := x
  simp only at *
  subst hdr
  have hst := run_store_str
  have hst2 : ∀ (w : World) (a : Addr) (x : Option Addr) (n c : Nat) (m : Mode), (store a (.slice x n c) m).run Try.prog w = stored Try.prog w a (.slice x n c) m := fun w a x n c m => run_store_any w a _ m rfl
  have HC0 : Hid _ := c0
  have HC1 : Hid _ := c1
  have HC2 : Hid _ := c2
  have HC3 : Hid _ := c3
  have HC4 : Hid _ := c4
  clear A hQ1 hz1 hP0 hz0 hP2 hz2 hPP hP3 hz3 hnm hroot hft hat g1 g2 g3 hE2 hE20 hn60 c0 c1 c2 c3 c4 hshort hsmall hz1' hPz
  go_enter Try.func8, Try.ntmps8
  go_wp2_with fail
  refine (examples_val _).mono ?_
  rintro e w1 ⟨rfl, k1⟩
  have K1 : Hid (Below w.heap.size w w1) := k1
  clear k1
  go_wp2_with fail
  refine (CR.out _ K1.out).mono ?_
  rintro e w2 ⟨rfl, k2⟩
  have K2 : Hid (Below w.heap.size w w2) := bel_tr K1.out k2
  have y0 := bel_cell K2.out HC0.out
  have y1 := bel_cell K2.out HC1.out
  have y2 := bel_cell K2.out HC2.out
  have y3 := bel_cell K2.out HC3.out
  have y4 := bel_cell K2.out HC4.out
  clear k2 K1
  go_wp2_with fail
  refine (dir_agg q _).mono ?_
  rintro e w3 ⟨rfl, k3⟩
  have K3 : Hid (Below w.heap.size w w3) := bel_tr K2.out (bel_tr (bel_al _ _) k3)
  have z0 := bel_cell k3 (World.cell?_alloc_new w2 _ _ 0)
  have z1 := bel_cell k3 (World.cell?_alloc_new w2 _ _ 1)
  have Z0 : Hid _ := z0
  have Z1 : Hid _ := z1
  clear k3 y0 y1 y2 y3 y4 z0 z1
  go_wp2_with fail
  refine (CA.out _ (dirN q) 6 K3.out (noS_ok _ _ rfl HQM.out) H6.out).mono ?_
  rintro e w4 ⟨⟨a4, n4, c4, rfl, hX4⟩, k4⟩
  have K4 : Hid (Below w.heap.size w w4) := bel_tr K3.out k4
  have z0 : w4.cell? ⟨w2.heap.size, 0, none⟩ = some (.string q) := bel_cell k4 Z0.out
  have z1 : w4.cell? ⟨w2.heap.size, 1, none⟩ = some (.bool true) := bel_cell k4 Z1.out
  have V1 : Hid _ := z1
  clear k4 hX4 Z0 Z1
  go_wp2_with fail
  refine (name_val name true _ HNM.out HN1.out).mono ?_
  rintro e w5 ⟨rfl, hw5⟩
  obtain rfl : w4 = w5 := hw5.symm
  clear z0 z1
  go_wp2_with fail
  refine (file_agg P _).mono ?_
  rintro e w6 ⟨rfl, k6⟩
  have K6 : Hid (Below w.heap.size w w6) := bel_tr K4.out k6
  have B46 : Hid (Below w4.heap.size w4 w6) := k6
  clear k6
  go_wp2_with fail
  refine (fits_val (fileN P, noS) true _ (noS_ok _ _ rfl HPM.out) HF1.out).mono ?_
  rintro e w7 ⟨rfl, k7⟩
  have K7 : Hid (Below w.heap.size w w7) := bel_tr K6.out k7
  have B47 : Hid (Below w4.heap.size w4 w7) := bel_tr B46.out k7
  clear k7
  go_wp2_with fail
  refine (CF.out _ P _ K7.out HI.out).mono ?_
  rintro e w8 ⟨rfl, k8⟩
  have K8 : Hid (Below w.heap.size w w8) := bel_tr K7.out k8
  have B48 : Hid (Below w4.heap.size w4 w8) := bel_tr B47.out k8
  clear k8
  go_wp2_with fail
  refine (file_agg P _).mono ?_
  rintro e w9 ⟨rfl, k9⟩
  have K9 : Hid (Below w.heap.size w w9) := bel_tr K8.out k9
  have B49 : Hid (Below w4.heap.size w4 w9) := bel_tr B48.out k9
  clear k9
  go_wp2_with fail
  refine (CA.out _ (fileN P) 4 K9.out (noS_ok _ _ rfl HPM.out) HE1.out).mono ?_
  rintro e wa ⟨⟨aa, na, ca, rfl, hXa⟩, ka⟩
  have Ka : Hid (Below w.heap.size w wa) := bel_tr K9.out ka
  have B4a : Hid (Below w4.heap.size w4 wa) := bel_tr B49.out ka
  clear ka hXa
  go_wp2_with fail
  refine (file_agg P3 _).mono ?_
  rintro e wb ⟨rfl, kb⟩
  have Kb : Hid (Below w.heap.size w wb) := bel_tr Ka.out kb
  have B4b : Hid (Below w4.heap.size w4 wb) := bel_tr B4a.out kb
  have Bab : Hid (Below wa.heap.size wa wb) := kb
  clear kb
  go_wp2_with fail
  refine (CA.out _ (fileN P3) E2 Kb.out (noS_ok _ _ rfl HP3M.out) HE2.out).mono ?_
  rintro e wc ⟨⟨ac, nc, cc, rfl, hXc⟩, kc⟩
  have Kc : Hid (Below w.heap.size w wc) := bel_tr Kb.out kc
  have Bac : Hid (Below wa.heap.size wa wc) := bel_tr Bab.out kc
  have v1 := bel_cell (bel_tr B4b.out kc) V1.out
  clear kc hXc
  go_wp2
  go_ret
  exact ⟨rfl, Kc.out⟩

set_option maxRecDepth 100000 in
set_option maxHeartbeats 2000000 in
theorem core_00_room {w : World} {b off n c : Nat} {xs : NS} {x : NR} {Q kn : Nat} {name P : ByteArray} (A : Ask w b off n xs x Q kn name P) (hkn : (kn : Int) ≤ 9223372036854775807) (hroot : x.1.path ≠ rootP) (hnm : nameB name = true) (hft : fitsB (fileN P) = true) (hat : at? xs P = none) (hdr : x.1.dir = true) (hn60 : n < 60) :
    Calls Try.prog 8 #[.slice (some ⟨b, off, none⟩) n c, .int .i64 (kn : Int), .string name] w fun e w' => e = .returned (.bool true) ∧ Below w.heap.size w w' := by
  have CR : Hid (∀ W, Below w.heap.size w W → Calls Try.prog 15 #[.slice (some ⟨b, off, none⟩) n c] W fun e w' => e = .returned (.bool true) ∧ Below W.heap.size W w') := fun W hb => right_val (A.nl.below hb) true ⟨fun _ => A.right, fun _ => rfl⟩
  have CF : Hid (∀ W p I, Below w.heap.size w W → findI xs p = I → Calls Try.prog 17 #[.slice (some ⟨b, off, none⟩) n c, .string p] W fun e w' => e = .returned (.int .i64 I) ∧ Below W.heap.size W w') := fun W p I hb hI => find_val (A.nl.below hb) p I hI
  have CA : Hid (∀ W y E, Below w.heap.size w W → NdOk W (y, noS) → AddE xs y E → Calls Try.prog 20 #[.slice (some ⟨b, off, none⟩) n c, ndV (y, noS)] W fun e w' => TwoR W.heap.size (addL xs y E) E e w' ∧ Below W.heap.size W w') := fun W y E hb hy hE => add_val (A.nl.below hb) (y, noS) hy E hE
  have HA : Hid (Ask w b off n xs x Q kn name P) := A
  have c0 := A.c0
  have c1 := A.c1
  have c2 := A.c2
  have c3 := A.c3
  have c4 := A.c4
  have hr1 := A.rem
  have hr2 := A.rem2
  have hlt := A.lt
  have hfew := A.few
  have hshort := A.short
  have hsmall := A.small
  obtain ⟨Q1, hQ1, hq1, hz1⟩ := add_is x.1.path ⟨#[47]⟩ (by show x.1.path.size + 1 ≤ _; omega)
  have hz1' : Q1.size ≤ 121 := by rw [hz1]; show x.1.path.size + 1 ≤ 121; omega
  obtain ⟨P0, hP0, hp0, hz0⟩ := add_is Q1 name (by omega)
  obtain ⟨P2, hP2, hp2, hz2⟩ := add_is ⟨#[47]⟩ name (by show 1 + name.size ≤ _; omega)
  have hPP : P = P0 := by rw [← A.kid, kid_not hroot, hQ1, hP0]
  have hPz : P.size ≤ 140737488355449 := by rw [hPP, hz0]; omega
  rw [← hPP] at hp0
  have e47 : (x.1.path.toList == [47]) = false := by rw [root_eq, decide_eq_false hroot]
  have H6 : Hid (AddE xs (dirN x.1.path) 6) := A.exist hroot
  have e47b := e47
  obtain ⟨P3, hP3, hp3, hz3⟩ := add_is P ⟨#[47, 121]⟩ (by show P.size + 2 ≤ _; omega)
  have HPM : Hid (P.size ≤ maxLen) := by show P.size ≤ maxLen; unfold maxLen; omega
  have HP3M : Hid (P3.size ≤ maxLen) := by show P3.size ≤ maxLen; rw [hz3]; show P.size + 2 ≤ maxLen; unfold maxLen; omega
  have HNM : Hid (name.size ≤ maxLen) := by show name.size ≤ maxLen; unfold maxLen; omega
  have HQM : Hid (x.1.path.size ≤ maxLen) := by show x.1.path.size ≤ maxLen; unfold maxLen; omega
  have HN1 : Hid _ := hnm
  have HF1 : Hid _ := hft
  have HI : Hid (findI xs P = -1) := find_neg hat
  obtain ⟨g1, g2, g3⟩ := A.par hnm hft
  obtain ⟨E2, hE2⟩ := addE_any xs (fileN P3)
  have hE20 : E2 ≠ 0 := no_deeper g2 g3 hat (by rw [show P ++ sY = P3 from hP3]; exact hE2)
  have HE2 : Hid (AddE xs (fileN P3) E2) := hE2
  have hE2b : (E2 != 0) = true := by simpa using hE20
  have HE1 : Hid (AddE xs (fileN P) 0) := .ok A.right hft g3 hat (by show dirE xs (parD P) = _; rw [g1, A.dirE, hdr]; rfl) (by rw [A.len]; omega)
  obtain ⟨J, hJ, _⟩ := find_pos (xs := sortN (xs ++ [fileN P])) (p := P) (at_ex.2 ⟨fileN P, sortN_mem.2 (by simp), rfl⟩)
  have HJ : Hid (findI (sortN (xs ++ [fileN P])) P = (J : Int)) := hJ
  have HADD : Hid (addL xs (fileN P) 0 = sortN (xs ++ [fileN P])) := rfl
  have hnb : ((n : Int) == 60) = false := by simp; omega
  obtain ⟨⟨q, d, qu, bs, wr⟩, ⟨sa, sn, sc⟩⟩ := x
  simp only at *
  subst hdr
  have hst := run_store_str
  have hst2 : ∀ (w : World) (a : Addr) (x : Option Addr) (n c : Nat) (m : Mode), (store a (.slice x n c) m).run Try.prog w = stored Try.prog w a (.slice x n c) m := fun w a x n c m => run_store_any w a _ m rfl
  have HC0 : Hid _ := c0
  have HC1 : Hid _ := c1
  have HC2 : Hid _ := c2
  have HC3 : Hid _ := c3
  have HC4 : Hid _ := c4
  clear A hQ1 hz1 hP0 hz0 hP2 hz2 hPP hP3 hz3 hnm hroot hft hat g1 g2 g3 hE2 hE20 hJ hn60 c0 c1 c2 c3 c4 hshort hsmall hz1' hPz
  go_enter Try.func8, Try.ntmps8
  go_wp2_with fail
  refine (examples_val _).mono ?_
  rintro e w1 ⟨rfl, k1⟩
  have K1 : Hid (Below w.heap.size w w1) := k1
  clear k1
  go_wp2_with fail
  refine (CR.out _ K1.out).mono ?_
  rintro e w2 ⟨rfl, k2⟩
  have K2 : Hid (Below w.heap.size w w2) := bel_tr K1.out k2
  have y0 := bel_cell K2.out HC0.out
  have y1 := bel_cell K2.out HC1.out
  have y2 := bel_cell K2.out HC2.out
  have y3 := bel_cell K2.out HC3.out
  have y4 := bel_cell K2.out HC4.out
  clear k2 K1
  go_wp2_with fail
  refine (dir_agg q _).mono ?_
  rintro e w3 ⟨rfl, k3⟩
  have K3 : Hid (Below w.heap.size w w3) := bel_tr K2.out (bel_tr (bel_al _ _) k3)
  have z0 := bel_cell k3 (World.cell?_alloc_new w2 _ _ 0)
  have z1 := bel_cell k3 (World.cell?_alloc_new w2 _ _ 1)
  have Z0 : Hid _ := z0
  have Z1 : Hid _ := z1
  clear k3 y0 y1 y2 y3 y4 z0 z1
  go_wp2_with fail
  refine (CA.out _ (dirN q) 6 K3.out (noS_ok _ _ rfl HQM.out) H6.out).mono ?_
  rintro e w4 ⟨⟨a4, n4, c4, rfl, hX4⟩, k4⟩
  have K4 : Hid (Below w.heap.size w w4) := bel_tr K3.out k4
  have z0 : w4.cell? ⟨w2.heap.size, 0, none⟩ = some (.string q) := bel_cell k4 Z0.out
  have z1 : w4.cell? ⟨w2.heap.size, 1, none⟩ = some (.bool true) := bel_cell k4 Z1.out
  have V1 : Hid _ := z1
  clear k4 hX4 Z0 Z1
  go_wp2_with fail
  refine (name_val name true _ HNM.out HN1.out).mono ?_
  rintro e w5 ⟨rfl, hw5⟩
  obtain rfl : w4 = w5 := hw5.symm
  clear z0 z1
  go_wp2_with fail
  refine (file_agg P _).mono ?_
  rintro e w6 ⟨rfl, k6⟩
  have K6 : Hid (Below w.heap.size w w6) := bel_tr K4.out k6
  have B46 : Hid (Below w4.heap.size w4 w6) := k6
  clear k6
  go_wp2_with fail
  refine (fits_val (fileN P, noS) true _ (noS_ok _ _ rfl HPM.out) HF1.out).mono ?_
  rintro e w7 ⟨rfl, k7⟩
  have K7 : Hid (Below w.heap.size w w7) := bel_tr K6.out k7
  have B47 : Hid (Below w4.heap.size w4 w7) := bel_tr B46.out k7
  clear k7
  go_wp2_with fail
  refine (CF.out _ P _ K7.out HI.out).mono ?_
  rintro e w8 ⟨rfl, k8⟩
  have K8 : Hid (Below w.heap.size w w8) := bel_tr K7.out k8
  have B48 : Hid (Below w4.heap.size w4 w8) := bel_tr B47.out k8
  clear k8
  go_wp2_with fail
  refine (file_agg P _).mono ?_
  rintro e w9 ⟨rfl, k9⟩
  have K9 : Hid (Below w.heap.size w w9) := bel_tr K8.out k9
  have B49 : Hid (Below w4.heap.size w4 w9) := bel_tr B48.out k9
  clear k9
  go_wp2_with fail
  refine (CA.out _ (fileN P) 0 K9.out (noS_ok _ _ rfl HPM.out) HE1.out).mono ?_
  rintro e wa ⟨⟨aa, na, ca, rfl, hXa⟩, ka⟩
  have Ka : Hid (Below w.heap.size w wa) := bel_tr K9.out ka
  have B4a : Hid (Below w4.heap.size w4 wa) := bel_tr B49.out ka
  rw [HADD.out] at hXa
  have HXa : Hid (NL wa aa na (sortN (xs ++ [fileN P]))) := hXa.nl
  clear ka hXa
  go_wp2_with fail
  refine (file_agg P3 _).mono ?_
  rintro e wb ⟨rfl, kb⟩
  have Kb : Hid (Below w.heap.size w wb) := bel_tr Ka.out kb
  have B4b : Hid (Below w4.heap.size w4 wb) := bel_tr B4a.out kb
  have Bab : Hid (Below wa.heap.size wa wb) := kb
  clear kb
  go_wp2_with fail
  refine (CA.out _ (fileN P3) E2 Kb.out (noS_ok _ _ rfl HP3M.out) HE2.out).mono ?_
  rintro e wc ⟨⟨ac, nc, cc, rfl, hXc⟩, kc⟩
  have Kc : Hid (Below w.heap.size w wc) := bel_tr Kb.out kc
  have Bac : Hid (Below wa.heap.size wa wc) := bel_tr Bab.out kc
  have v1 := bel_cell (bel_tr B4b.out kc) V1.out
  clear kc hXc
  go_wp2_with fail
  refine (find_val (HXa.out.below Bac.out) P (J : Int) HJ.out).mono ?_
  rintro e wd ⟨rfl, kd⟩
  have Kd : Hid (Below w.heap.size w wd) := bel_tr Kc.out kd
  clear kd
  go_wp2
  go_ret
  exact ⟨rfl, Kd.out⟩

set_option maxRecDepth 100000 in
set_option maxHeartbeats 1000000 in
theorem none_right {a : Option Addr} {n c : Nat} {xs : NS} (w : World) (h : NL w a n xs) (k : Int) (name : ByteArray) (hR : ¬ Right xs) :
    Calls Try.prog 8 #[.slice a n c, .int .i64 k, .string name] w fun e w' => e = .returned (.bool true) ∧ Below w.heap.size w w' := by
  have CR : Hid (∀ W, Below w.heap.size w W → Calls Try.prog 15 #[.slice a n c] W fun e w' => e = .returned (.bool false) ∧ Below W.heap.size W w') := fun W hb => right_val (h.below hb) false ⟨fun e => (by cases e), fun e => absurd e hR⟩
  have CA : Hid (∀ W, Below w.heap.size w W → Calls Try.prog 20 #[.slice a n c, ndV (fileN pX, noS)] W fun e w' => TwoR W.heap.size (addL xs (fileN pX) 1) 1 e w' ∧ Below W.heap.size W w') := fun W hb => add_val (h.below hb) (fileN pX, noS) (noS_ok _ _ rfl (lit_le _ (by decide))) 1 (.arg fun e => hR e.1)
  clear h hR
  go_enter Try.func8, Try.ntmps8
  go_wp2_with fail
  refine (examples_val _).mono ?_
  rintro e w1 ⟨rfl, k1⟩
  have K1 : Hid (Below w.heap.size w w1) := k1
  clear k1
  go_wp2_with fail
  refine (CR.out _ K1.out).mono ?_
  rintro e w2 ⟨rfl, k2⟩
  have K2 : Hid (Below w.heap.size w w2) := bel_tr K1.out k2
  clear k2
  go_wp2_with fail
  refine (file_agg pX _).mono ?_
  rintro e w3 ⟨rfl, k3⟩
  have K3 : Hid (Below w.heap.size w w3) := bel_tr K2.out k3
  clear k3
  go_wp2_with fail
  refine (CA.out _ K3.out).mono ?_
  rintro e w4 ⟨⟨a4, n4, c4, rfl, hX4⟩, k4⟩
  have K4 : Hid (Below w.heap.size w w4) := bel_tr K3.out k4
  clear k4 hX4
  go_wp2
  go_ret
  exact ⟨rfl, K4.out⟩

def keepN (k : Int) : Nat := if k < 0 then (-(k + 1)).toNat else k.toNat

theorem walk (a0 : Option Addr) (b0 off0 cap0 : Nat) (ss0 : List NR) (a1 : Int) (a2 : ByteArray) (W : World) (h0 : Nds W a0 b0 off0 ss0) (h1 : (Lit.int .i64 a1).wf = true) (h2 : a2.size ≤ maxLen) (z0 : (∀ x ∈ ss0, x.2.n * 24 ≤ reachBytes) ∧ (ss0.map (·.1)).length * 64 ≤ reachBytes) (z2 : a2.size ≤ 140737488351232) :
    Calls Try.prog 8 #[.slice a0 (ss0.map (·.1)).length cap0, .int .i64 a1, .string a2] W fun e w' => e = .returned (.bool true) ∧ Below W.heap.size W w' := by
  have hN : NL W a0 (ss0.map (·.1)).length (ss0.map (·.1)) := ⟨b0, off0, ss0, rfl, rfl, h0⟩
  by_cases hR : Right (ss0.map (·.1))
  · have hb := bounds_i64 h1
    obtain ⟨xs, hxs⟩ : ∃ xs, ss0.map (·.1) = xs := ⟨_, rfl⟩
    rw [hxs] at hN hR ⊢
    obtain ⟨n, hn⟩ : ∃ n, xs.length = n := ⟨_, rfl⟩
    rw [hn] at hN ⊢
    have hpl : ss0.length = n := by rw [← hn, ← hxs, List.length_map]
    have hn0 : 0 < n := by rw [← hn]; exact hR.pos
    have hn60 : n ≤ 60 := by rw [← hn]; exact hR.few
    obtain rfl := h0.addr (by omega)
    obtain ⟨kn, hkn⟩ : ∃ kn, keepN a1 = kn := ⟨_, rfl⟩
    obtain ⟨Q, hQ⟩ : ∃ Q, kn % n = Q := ⟨_, rfl⟩
    have hQn : Q < n := by rw [← hQ]; exact Nat.mod_lt _ hn0
    have hQp : Q < ss0.length := by omega
    have hQx : Q < xs.length := by omega
    obtain ⟨y0, y1, y2, y3, y4⟩ := h0.at hQp
    have ex : ss0[Q].1 = xs[Q] := by subst hxs; simp
    have hmem : ss0[Q].1 ∈ xs := by rw [ex]; exact List.getElem_mem hQx
    have hsp := fits_path (hR.fit _ hmem)
    obtain ⟨P, hP⟩ : ∃ P, kid ss0[Q].1.path a2 = P := ⟨_, rfl⟩
    have hr1 : (kn : Int).tmod (n : Int) = (Q : Int) := by rw [Int.tmod_eq_emod_of_nonneg (by omega), ← hQ]; rfl
    have hr2 : (kn : Int) % (n : Int) = (Q : Int) := by rw [← hQ]; rfl
    have A : Ask W b0 off0 n xs ss0[Q] Q kn a2 P := ⟨hR, hN, hn60, hn, hQn, hr1, hr2, y0, y1, y2, y3, y4, hsp, by rw [splitX_ok hsp]; exact pathT_small (split_ok hsp).1, dirE_of (right_asc hR).apart hmem, at_ex.2 ⟨_, hmem, rfl⟩, by omega, hP⟩
    unfold keepN at hkn
    by_cases hneg : a1 < 0
    · rw [if_pos hneg] at hkn
      have hkk : -(a1 + 1) = (kn : Int) := by omega
      by_cases hroot : ss0[Q].1.path = rootP
      · cases hnm : nameB a2 with
        | false => exact core_11_noname A a1 hb hneg hkk hroot hnm
        | true =>
          cases hft : fitsB (fileN P) with
          | false => exact core_11_nofit A a1 hb hneg hkk hroot hnm hft
          | true =>
            by_cases hat : at? xs P = none
            · cases hdr : ss0[Q].1.dir with
              | false => exact core_11_file A a1 hb hneg hkk hroot hnm hft hat hdr
              | true =>
                by_cases hf : n = 60
                · exact core_11_full A a1 hb hneg hkk hroot hnm hft hat hdr hf
                · exact core_11_room A a1 hb hneg hkk hroot hnm hft hat hdr (by omega)
            · exact core_11_found A a1 hb hneg hkk hroot hnm hft hat
      · cases hnm : nameB a2 with
        | false => exact core_10_noname A a1 hb hneg hkk hroot hnm
        | true =>
          cases hft : fitsB (fileN P) with
          | false => exact core_10_nofit A a1 hb hneg hkk hroot hnm hft
          | true =>
            by_cases hat : at? xs P = none
            · cases hdr : ss0[Q].1.dir with
              | false => exact core_10_file A a1 hb hneg hkk hroot hnm hft hat hdr
              | true =>
                by_cases hf : n = 60
                · exact core_10_full A a1 hb hneg hkk hroot hnm hft hat hdr hf
                · exact core_10_room A a1 hb hneg hkk hroot hnm hft hat hdr (by omega)
            · exact core_10_found A a1 hb hneg hkk hroot hnm hft hat
    · rw [if_neg hneg] at hkn
      obtain rfl : a1 = (kn : Int) := by omega
      by_cases hroot : ss0[Q].1.path = rootP
      · cases hnm : nameB a2 with
        | false => exact core_01_noname A hb.2 hroot hnm
        | true =>
          cases hft : fitsB (fileN P) with
          | false => exact core_01_nofit A hb.2 hroot hnm hft
          | true =>
            by_cases hat : at? xs P = none
            · cases hdr : ss0[Q].1.dir with
              | false => exact core_01_file A hb.2 hroot hnm hft hat hdr
              | true =>
                by_cases hf : n = 60
                · exact core_01_full A hb.2 hroot hnm hft hat hdr hf
                · exact core_01_room A hb.2 hroot hnm hft hat hdr (by omega)
            · exact core_01_found A hb.2 hroot hnm hft hat
      · cases hnm : nameB a2 with
        | false => exact core_00_noname A hb.2 hroot hnm
        | true =>
          cases hft : fitsB (fileN P) with
          | false => exact core_00_nofit A hb.2 hroot hnm hft
          | true =>
            by_cases hat : at? xs P = none
            · cases hdr : ss0[Q].1.dir with
              | false => exact core_00_file A hb.2 hroot hnm hft hat hdr
              | true =>
                by_cases hf : n = 60
                · exact core_00_full A hb.2 hroot hnm hft hat hdr hf
                · exact core_00_room A hb.2 hroot hnm hft hat hdr (by omega)
            · exact core_00_found A hb.2 hroot hnm hft hat
  · exact none_right W hN a1 a2 hR

set_option maxRecDepth 100000 in
theorem lifted (os : Os) (started : os.Started) (H : Type) (enc : TypeId × Value → H) :
    ReturnsInHanded {} Try.checked os 8 .any (Rows.treeRefusesSpec.pre6 enc Try.prog Try.f8 Rows.treeRefusesRow.domain false) (Rows.treeRefusesSpec.post enc Try.prog Try.f8 false true false false) := by
  refine returnsInHanded_of_change_sized (C := Try.checked) own started (by kernel_rfl) Try.func8
    (ChangeSpec.witness6 (enc := enc) (C := Try.checked) false ⟨#[], #[.slice none 0 0, .int .i64 0, .string ByteArray.empty], []⟩ 8 (by kernel_rfl) (by kernel_rfl) (by kernel_rfl) (by kernel_rfl)) ?_
  intro W base args ds gs before hval0 hW hcnd hsz0 _
  have hval : ∀ (j : Nat) t v, Try.f8.params[j]? = some t → args[j]? = some v → Value.okWide Try.prog W .any base t v := hval0
  have hW' := hW
  obtain ⟨p, q, hA0, hV, rfl, hfz, hnd⟩ := hW
  have hA : DataW.TrodAll enc Try.prog W 0 (fun _ => true) true Try.f8.params.toList args.toList ds p := hA0
  have hsz : (DataW.weightsEach Try.prog (Try.f8.params.toList ++ Rows.treeRefusesSpec.plain.varTypes Try.prog) (ds ++ gs)).all (· ≤ reachBytes) = true := hsz0
  rw [Try.params8] at hA hval hsz
  obtain ⟨v0, vs0, d0, ds0, p0, q0, hargs, rfl, rfl, h0, r0⟩ := trodAll_cons hA
  obtain ⟨v1, vs1, d1, ds1, p1, q1, rfl, rfl, rfl, h1, r1⟩ := trodAll_cons r0
  obtain ⟨v2, vs2, d2, ds2, p2, q2, rfl, rfl, rfl, h2, r2⟩ := trodAll_cons r1
  obtain ⟨rfl, rfl, rfl⟩ := trodAll_nil r2
  obtain rfl : args = #[v0, v1, v2] := by cases args; simp_all
  obtain ⟨rfl, rfl⟩ := trodVars_none hV
  obtain ⟨a0, len0, cap0, rfl⟩ := okWide_slice Try.underlying22 (hval 0 22 v0 rfl rfl)
  have k0 := h0
  have lt0 : ∀ x ∈ p0, x.block < W.heap.size := by obtain ⟨m, hm⟩ := k0; exact DataW.trod_lt m _ _ _ hm
  obtain ⟨b0, off0, ss0, rfl, w0, n0⟩ := open_nodes h0
  obtain ⟨a1, rfl, rfl, rfl, w1⟩ := open_int Try.underlying3 (hval 1 3 v1 rfl rfl) h1
  obtain ⟨a2, rfl, rfl, rfl, w2⟩ := open_string Try.underlying9 (hval 2 9 v2 rfl rfl) h2
  have z0 := n0 (fun x hx => by simpa using List.all_eq_true.1 hsz x (DataW.weights_mem_each (j := 0) (t := 22) rfl rfl x hx))
  have z2 : a2.size ≤ 140737488351232 := by have h := sized_string hsz (j := 2) (t := 9) rfl rfl; rw [Array.length_toList] at h; exact h
  clear hA0 hval0
  refine (walk a0 b0 off0 cap0 ss0 a1 a2 W w0 w1 w2 z0 z2).mono fun e W' ⟨he, bel⟩ => ?_
  subst he
  exact ⟨_, rfl, _, _, _, [], _, [], hW', trodAll_mk1 (shut_bool Try.underlying4 _), (trodAll_cons_mk (Below.trod laidOut (by kernel_rfl) (of_decide_eq_true (by kernel_rfl)) k0 bel lt0) (trodAll_cons_mk (shut_int Try.underlying3 w1) (trodAll_cons_mk (shut_string Try.underlying9 w2) trodAll_mk0))), rfl, bel.frame _, fun h => by cases h⟩

theorem over : Rows.treeRefusesRow.holds Try.pinned (OpenSpec.ofChange Rows.treeRefusesSpec) :=
  OpenClaim.holds_of_wide 8 Try.f8 rfl rfl rfl rfl rfl rfl rfl ⟨rfl, rfl, rfl, rfl, rfl⟩ rfl rfl rfl rfl rfl (by kernel_rfl) Try.func8 (by kernel_rfl)
    (of_decide_eq_true (by kernel_rfl)) (by unfold Func.isWrapper; first | (rw [if_pos (by decide +kernel)]; kernel_rfl) | (rw [if_neg (by decide +kernel)]; exact ⟨rfl, rfl⟩))
    (fun os started H enc _ => lifted os started H enc)
end Go.Proofs.Ytdcmhbodjmajcaa.treeRefuses

namespace Go.Proofs.Ytdcmhbodjmajcaa
/-- The statement. -/
theorem treeRefuses_holds : Rows.TreeRefusesSaid := treeRefuses.over
#print axioms treeRefuses_holds
end Go.Proofs.Ytdcmhbodjmajcaa
