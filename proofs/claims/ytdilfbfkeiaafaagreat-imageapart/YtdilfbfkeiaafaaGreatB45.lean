/- Part 45 of the proof: ImageF6, ImageG3, SpaceL6. -/
import Derived.Test.YtdilfbfkeiaafaaGreatB33
import Derived.Test.YtdilfbfkeiaafaaGreatB44
import Derived.Deep.LoopGhost
set_option maxRecDepth 100000
set_option maxHeartbeats 8000000
namespace Go.Proofs.YtdilfbfkeiaafaaGreat.Img
open Go.RowKit Go.Proofs.YtdilfbfkeiaafaaGreat Go.Proofs.YtdilfbfkeiaafaaGreat.Smm
open Go.Proofs.YtdilfbfkeiaafaaGreat.Spa (Sp RtS zeroS newS spV SpIn SpC put6 put6_at put6_def noS bel_put6)
open Go.Proofs.YtdilfbfkeiaafaaGreat.Lea (LS Ls LL)
open Go.Proofs.YtdilfbfkeiaafaaGreat.Edi (numsB takeN bel_tr bel_al bel_cell bel_drew)
open Go.WideShapes (bytes_inj)
def isT (s : ByteArray) : Bool := s.data.toList[0]? == some 84
theorem isT_iff {s : ByteArray} : isT s = true ↔ ∃ left : ByteArray, s.data.toList = 84 :: left.data.toList := by
  unfold isT; cases h : s.data.toList with
  | nil => simp
  | cons c r =>
    simp only [List.getElem?_cons_zero, beq_iff_eq, Option.some.injEq, List.cons.injEq]
    exact ⟨fun e => ⟨mk r, e, (mk_li r).symm⟩, fun ⟨_, e, _⟩ => e⟩
theorem isT_ext {s : ByteArray} (h : 1 ≤ s.size) : ((s.extract 0 1).toList == [84]) = isT s := by
  rw [ByteArray.toList_eq, Wir.cut_list]
  unfold isT; have hl := Wir.size_list s
  cases hs : s.data.toList with
  | nil => rw [hs] at hl; simp at hl; omega
  | cons c r => simp
theorem hasPrefix_val (s : ByteArray) (v : Bool) (w : World) (hs : s.size ≤ maxLen) (hv : isT s = v) :
    Calls Tryz.prog 172 #[.string s, .string ⟨#[84]⟩] w fun e w' => e = .returned (.bool v) ∧ Below w.heap.size w w' := by
  have hmx : s.size ≤ 9223372036854775807 := by unfold maxLen at hs; omega
  by_cases h0 : 1 ≤ s.size
  · have he := isT_ext h0
    rw [hv] at he
    have hg : decide ((1 : Int) ≤ (s.size : Int)) = true := decide_eq_true (by omega)
    have hg2 : decide (1 ≤ s.size) = true := decide_eq_true h0
    clear hv hs; go_enter Tryz.func172, Tryz.ntmps172; go_wp2; go_ret; exact ⟨rfl, Below.refl _ _⟩
  · have hz : s.size = 0 := by omega
    have hvf : v = false := by
      have hl := Wir.size_list s
      rw [← hv]
      unfold isT; rw [List.length_eq_zero_iff.1 (hl.trans hz)]
      rfl
    subst hvf; have hg : decide ((1 : Int) ≤ (s.size : Int)) = false := decide_eq_false (by omega)
    have hg2 : decide (1 ≤ s.size) = false := decide_eq_false h0
    clear hv hs hz; go_enter Tryz.func172, Tryz.ntmps172; go_wp2; go_ret; exact ⟨rfl, Below.refl _ _⟩
theorem cutP_yes (s left : ByteArray) (w : World) (hs : s.size ≤ maxLen) (h : s.data.toList = 84 :: left.data.toList) :
    Calls Tryz.prog 153 #[.string s, .string ⟨#[84]⟩] w fun e w' => e = .returned (.tuple #[.string left, .bool true]) ∧ Below w.heap.size w w' := by
  have hmx : s.size ≤ 9223372036854775807 := by unfold maxLen at hs; omega
  have hT : isT s = true := isT_iff.2 ⟨left, h⟩
  have h1 : 1 ≤ s.size := by rw [← Wir.size_list, h]; simp
  have he : s.extract 1 s.size = left := bytes_inj (by rw [Wir.ext_list, h]; rfl)
  have CP : Hid (∀ W, Calls Tryz.prog 172 #[.string s, .string ⟨#[84]⟩] W fun e w' => e = .returned (.bool true) ∧ Below W.heap.size W w') := fun W => hasPrefix_val s true W hs hT
  clear hT h hs; go_enter Tryz.func153, Tryz.ntmps153; go_wp2_with fail
  refine (CP.out _).mono ?_
  rintro e w1 ⟨rfl, b1⟩; go_wp2; go_ret2; exact ⟨rfl, b1⟩
theorem cutP_no (s : ByteArray) (w : World) (hs : s.size ≤ maxLen) (h : isT s = false) :
    Calls Tryz.prog 153 #[.string s, .string ⟨#[84]⟩] w fun e w' => e = .returned (.tuple #[.string s, .bool false]) ∧ Below w.heap.size w w' := by
  have CP : Hid (∀ W, Calls Tryz.prog 172 #[.string s, .string ⟨#[84]⟩] W fun e w' => e = .returned (.bool false) ∧ Below W.heap.size W w') := fun W => hasPrefix_val s false W hs h
  clear h hs; go_enter Tryz.func153, Tryz.ntmps153; go_wp2_with fail
  refine (CP.out _).mono ?_
  rintro e w1 ⟨rfl, b1⟩; go_wp2; go_ret2; exact ⟨rfl, b1⟩
theorem cut_any (s : ByteArray) (V : Value) (w : World) (h : ∀ W, Calls Tryz.prog 153 #[.string s, .string ⟨#[84]⟩] W fun e w' => e = .returned V ∧ Below W.heap.size W w') (l : ByteArray) (v : Bool) (hV : V = .tuple #[.string l, .bool v]) :
    Calls Tryz.prog 121 #[.string s, .string ⟨#[84]⟩] w fun e w' => e = .returned V ∧ Below w.heap.size w w' := by
  subst hV; have CP : Hid (∀ W, Calls Tryz.prog 153 #[.string s, .string ⟨#[84]⟩] W fun e w' => e = .returned (.tuple #[.string l, .bool v]) ∧ Below W.heap.size W w') := h
  clear h; go_enter Tryz.func121, Tryz.ntmps121; go_wp2_with fail
  refine (CP.out _).mono ?_
  rintro e w1 ⟨rfl, b1⟩; go_wp2; go_ret2; exact ⟨rfl, b1⟩
structure HeadR (part : ByteArray) (e : Ending) : Prop where
  ex : ∃ (z0 z1 z2 z3 z4 z5 : Int) (v : Bool), e = .returned (.tuple #[spV ⟨z0, z1, z2, z3, [], []⟩ noS noS, .int .i64 z4, .int .i64 z5, .bool v]) ∧ (v = true → part = headL [z0, z1, z2, z3, z4, z5] ∧ ∀ z ∈ [z0, z1, z2, z3, z4, z5], I64 z) ∧ (v = false → ∀ zs : List Int, zs.length = 6 → (∀ z ∈ zs, I64 z) → part ≠ headL zs)
theorem readHead_no (part : ByteArray) (w : World) (hp : part.size ≤ maxLen) (h : isT part = false) :
    Calls Tryz.prog 77 #[.string part] w fun e w' => HeadR part e ∧ Below w.heap.size w w' := by
  have HI : Hid (HeadR part (.returned (.tuple #[spV ⟨0, 0, 0, 0, [], []⟩ noS noS, .int .i64 0, .int .i64 0, .bool false]))) := ⟨0, 0, 0, 0, 0, 0, false, rfl, fun e => (by cases e), fun _ zs _ _ => head_no (fun left hl => by rw [isT_iff.2 ⟨left, hl⟩] at h; cases h) zs⟩
  have CP : Hid (∀ W, Calls Tryz.prog 121 #[.string part, .string ⟨#[84]⟩] W fun e w' => e = .returned (.tuple #[.string part, .bool false]) ∧ Below W.heap.size W w') := fun W => cut_any part _ W (fun W => cutP_no part W hp h) part false rfl
  clear h hp; have hst2 := sto2
  go_enter Tryz.func77, Tryz.ntmps77; go_wp2_with fail
  refine (CP.out _).mono ?_
  rintro e w1 ⟨rfl, b1⟩; have B1 : Hid (Below w.heap.size w w1) := bel_tr (bel_al _ _) b1
  have hS := (SpC.new w 27 zeroS noS noS).below b1
  obtain ⟨p1, _⟩ := put6_at hS zeroS noS noS
  have HS : Hid (SpC (put6 w1 w.heap.size zeroS noS noS) w.heap.size zeroS noS noS) := p1
  have HB : Hid (Below w.heap.size w (put6 w1 w.heap.size zeroS noS noS)) := bel_put6 B1.out hS (Nat.le_refl _) _ _ _
  obtain ⟨c0, c1, c2, c3, c4, c5, f⟩ := hS
  clear b1 CP p1; rw [put6_def] at HS HB
  simp only [zeroS, noS] at c0 c1 c2 c3 c4 c5 f HS HB
  go_wp2; obtain ⟨q0, q1, q2, q3, q4, q5, _⟩ := HS.out
  refine bodyPost_ret (v := .tuple #[spV ⟨0, 0, 0, 0, [], []⟩ noS noS, .int .i64 0, .int .i64 0, .bool false]) ?_ rfl ⟨HI.out, HB.out⟩
  unfold spV noS; simp only [results, Tryz.results77]
  simp [go_sem, q0, q1, q2, q3, q4, q5]
theorem Bx.put6 {w : World} {bl bs R : Nat} {s : St} {s0 : Sp} {N0 L0 : RS} (h : Bx w bl bs s) (hS : SpC w R s0 N0 L0) (t : Sp) (N L : RS) (h1 : bl ≠ R) (h2 : bs ≠ R) : Bx (Spa.put6 w R t N L) bl bs s :=
  h.keep (put6_at hS t N L).2 h1 h2
theorem readHead_yes (part left : ByteArray) (w : World) (hp : part.size ≤ maxLen) (h : part.data.toList = 84 :: left.data.toList) :
    Calls Tryz.prog 77 #[.string part] w fun e w' => HeadR part e ∧ Below w.heap.size w w' := by
  obtain ⟨⟨z0, s1⟩, h0⟩ : ∃ x, numS (left, true) = x := ⟨_, rfl⟩
  obtain ⟨⟨z1, s2⟩, h1⟩ : ∃ x, numS s1 = x := ⟨_, rfl⟩
  obtain ⟨⟨z2, s3⟩, h2⟩ : ∃ x, numS s2 = x := ⟨_, rfl⟩
  obtain ⟨⟨z3, s4⟩, h3⟩ : ∃ x, numS s3 = x := ⟨_, rfl⟩
  obtain ⟨⟨z4, s5⟩, h4⟩ : ∃ x, numS s4 = x := ⟨_, rfl⟩
  obtain ⟨⟨z5, s6⟩, h5⟩ : ∃ x, numS s5 = x := ⟨_, rfl⟩
  obtain ⟨u, hu⟩ : ∃ x, endB s6 = x := ⟨_, rfl⟩
  have hif := head_iff h h0 h1 h2 h3 h4 h5
  have HI : Hid (HeadR part (.returned (.tuple #[spV ⟨z0, z1, z2, z3, [], []⟩ noS noS, .int .i64 z4, .int .i64 z5, .bool u]))) := ⟨z0, z1, z2, z3, z4, z5, u, rfl, fun e => hif.1 (hu.trans e), fun e => hif.2 (hu.trans e)⟩
  have CP : Hid (∀ W, Calls Tryz.prog 121 #[.string part, .string ⟨#[84]⟩] W fun e w' => e = .returned (.tuple #[.string left, .bool true]) ∧ Below W.heap.size W w') := fun W => cut_any part _ W (fun W => cutP_yes part left W hp h) left true rfl
  have HLS : Hid (left.size ≤ maxLen) := by
    have h1 := congrArg List.length h
    rw [Wir.size_list, List.length_cons, Wir.size_list] at h1
    show left.size ≤ maxLen
    omega
  have H0 : Hid (numS (left, true) = (z0, s1)) := h0
  have H1 : Hid (numS s1 = (z1, s2)) := h1
  have H2 : Hid (numS s2 = (z2, s3)) := h2
  have H3 : Hid (numS s3 = (z3, s4)) := h3
  have H4 : Hid (numS s4 = (z4, s5)) := h4
  have H5 : Hid (numS s5 = (z5, s6)) := h5
  have HE : Hid (endB s6 = u) := hu
  clear h0 h1 h2 h3 h4 h5 hu hp h hif; have hst2 := sto2
  go_enter Tryz.func77, Tryz.ntmps77; go_wp2_with fail
  refine (CP.out _).mono ?_
  rintro e w1 ⟨rfl, b1⟩; have B1 : Hid (Below w.heap.size w w1) := bel_tr (bel_al _ _) b1
  have S1 : Hid (SpC w1 w.heap.size zeroS noS noS) := (SpC.new w 27 zeroS noS noS).below b1
  have hw1 : w.heap.size < w1.heap.size := by have := b1.size; simp at this; omega
  clear b1 CP; go_wp2_with fail
  refine (over_val left _ HLS.out).mono ?_
  rintro e w2 ⟨bl, bs, rfl, hB, hl, hs, b2⟩; have B2 : Hid (Below w.heap.size w w2) := bel_tr B1.out b2
  have S2 : Hid (SpC w2 w.heap.size zeroS noS noS) := S1.out.below b2
  have X2 : Hid (Bx w2 bl bs (left, true)) := hB
  have hbl : bl ≠ w.heap.size := by omega
  have hbs : bs ≠ w.heap.size := by omega
  have HO : Hid (∀ k, Two bl bs k → w.heap.size ≤ k) := fun k hk => by rcases hk with rfl | rfl <;> omega
  have HNR : Hid (¬ Two bl bs w.heap.size) := fun e => by rcases e with e | e <;> omega
  clear b2 hB; go_wp2_with fail
  refine (num_cl X2.out z0 s1 H0.out).mono ?_
  rintro e w3 ⟨rfl, hB3, st3⟩; have X3 : Hid (Bx w3 bl bs s1) := hB3
  have T3 : Hid (Stay (Two bl bs) w2 w3) := st3
  clear hB3 st3; go_wp2_with fail
  refine (num_cl X3.out z1 s2 H1.out).mono ?_
  rintro e w4 ⟨rfl, hB4, st4⟩; have X4 : Hid (Bx w4 bl bs s2) := hB4
  have T4 : Hid (Stay (Two bl bs) w2 w4) := T3.out.then_same st4
  clear hB4 st4; go_wp2_with fail
  refine (num_cl X4.out z2 s3 H2.out).mono ?_
  rintro e w5 ⟨rfl, hB5, st5⟩; have X5 : Hid (Bx w5 bl bs s3) := hB5
  have T5 : Hid (Stay (Two bl bs) w2 w5) := T4.out.then_same st5
  clear hB5 st5; go_wp2_with fail
  refine (num_cl X5.out z3 s4 H3.out).mono ?_
  rintro e w6 ⟨rfl, hB6, st6⟩; have X6 : Hid (Bx w6 bl bs s4) := hB6
  have T6 : Hid (Stay (Two bl bs) w2 w6) := T5.out.then_same st6
  have S6 : Hid (SpC w6 w.heap.size zeroS noS noS) := S2.out.keep T6.out HNR.out
  have B6 : Hid (Below w.heap.size w w6) := bel_stay B2.out T6.out HO.out
  have HPW : Hid (SpC (Spa.put6 w6 w.heap.size ⟨z0, z1, z2, z3, [], []⟩ noS noS) w.heap.size ⟨z0, z1, z2, z3, [], []⟩ noS noS ∧ Bx (Spa.put6 w6 w.heap.size ⟨z0, z1, z2, z3, [], []⟩ noS noS) bl bs s4 ∧ Below w.heap.size w (Spa.put6 w6 w.heap.size ⟨z0, z1, z2, z3, [], []⟩ noS noS)) := ⟨(put6_at S6.out _ _ _).1, X6.out.put6 S6.out _ _ _ hbl hbs, bel_put6 B6.out S6.out (Nat.le_refl _) _ _ _⟩
  rw [put6_def] at HPW
  obtain ⟨c0, c1, c2, c3, c4, c5, f⟩ := S6.out
  simp only [zeroS, noS] at c0 c1 c2 c3 c4 c5 f
  clear hB6 st6 T3 T4 T5 X3 X4 X5; go_wp2_with fail
  unfold noS at HPW; simp only at HPW
  clear c0 c1 c2 c3 c4 c5 f; generalize (((((w6.setCell ⟨w.heap.size, 0, none⟩ (.int .i64 z0)).setCell ⟨w.heap.size, 1, none⟩ (.int .i64 z1)).setCell ⟨w.heap.size, 2, none⟩ (.int .i64 z2)).setCell ⟨w.heap.size, 3, none⟩ (.int .i64 z3)).setCell ⟨w.heap.size, 4, none⟩ (.slice none 0 0)).setCell ⟨w.heap.size, 5, none⟩ (.slice none 0 0) = W at *
  refine (num_cl HPW.out.2.1 z4 s5 H4.out).mono ?_
  rintro e w7 ⟨rfl, hB7, st7⟩; have X7 : Hid (Bx w7 bl bs s5) := hB7
  have T7 : Hid (Stay (Two bl bs) W w7) := st7
  clear hB7 st7; go_wp2_with fail
  refine (num_cl X7.out z5 s6 H5.out).mono ?_
  rintro e w8 ⟨rfl, hB8, st8⟩; have X8 : Hid (Bx w8 bl bs s6) := hB8
  have T8 : Hid (Stay (Two bl bs) W w8) := T7.out.then_same st8
  have S8 : Hid (SpC w8 w.heap.size ⟨z0, z1, z2, z3, [], []⟩ noS noS) := by
    have h := HPW.out.1
    exact SpC.keep (N := noS) (L := noS) h T8.out HNR.out
  have B8 : Hid (Below w.heap.size w w8) := bel_stay HPW.out.2.2 T8.out HO.out
  clear hB8 st8 T7; have CE : Hid (Calls Tryz.prog 157 #[.pointer (some ⟨bs, 0, none⟩), .pointer (some ⟨bl, 0, none⟩)] w8.drew fun e w' => e = .returned (.bool u) ∧ w' = w8.drew) := end_cl (X8.out.below (bel_drew w8)) u HE.out
  obtain ⟨c0, c1, c2, c3, c4, c5, f⟩ := S8.out
  simp only [noS] at c0 c1 c2 c3 c4 c5 f
  have f0 := f 0
  have f1 := f 1
  have f2 := f 2
  have f3 := f 3
  have f4 := f 4
  have f5 := f 5
  have HPZ : Hid (SpC (Spa.put6 w8 w.heap.size ⟨z0, z1, z2, z3, [], []⟩ noS noS) w.heap.size ⟨z0, z1, z2, z3, [], []⟩ noS noS ∧ Below w.heap.size w (Spa.put6 w8 w.heap.size ⟨z0, z1, z2, z3, [], []⟩ noS noS)) := ⟨(put6_at S8.out _ _ _).1, bel_put6 B8.out S8.out (Nat.le_refl _) _ _ _⟩
  rw [put6_def] at HPZ
  unfold noS at HPZ; simp only at HPZ
  go_upto_region 7 with fail
  go_region_with (refine CE.out.mono ?_; rintro e wE ⟨rfl, rfl⟩)
  all_goals
    clear c0 c1 c2 c3 c4 c5 f f0 f1 f2 f3 f4 f5; generalize (((((w8.setCell ⟨w.heap.size, 0, none⟩ (.int .i64 z0)).setCell ⟨w.heap.size, 1, none⟩ (.int .i64 z1)).setCell ⟨w.heap.size, 2, none⟩ (.int .i64 z2)).setCell ⟨w.heap.size, 3, none⟩ (.int .i64 z3)).setCell ⟨w.heap.size, 4, none⟩ (.slice none 0 0)).setCell ⟨w.heap.size, 5, none⟩ (.slice none 0 0) = W9 at *
    have HS9 : Hid (SpC W9.drew w.heap.size ⟨z0, z1, z2, z3, [], []⟩ noS noS) := SpC.below (N := noS) (L := noS) HPZ.out.1 (bel_drew W9)
    have HB9 : Hid (Below w.heap.size w W9.drew) := bel_tr HPZ.out.2 (bel_drew W9)
    generalize W9.drew = W8 at *
    go_wp2; obtain ⟨q0, q1, q2, q3, q4, q5, _⟩ := HS9.out
    refine bodyPost_ret (v := .tuple #[spV ⟨z0, z1, z2, z3, [], []⟩ noS noS, .int .i64 z4, .int .i64 z5, .bool u]) ?_ rfl ⟨HI.out, HB9.out⟩
    unfold spV noS; simp only [results, Tryz.results77]
    simp [go_sem, q0, q1, q2, q3, q4, q5, noS]
theorem readHead_val (part : ByteArray) (w : World) (hp : part.size ≤ maxLen) :
    Calls Tryz.prog 77 #[.string part] w fun e w' => HeadR part e ∧ Below w.heap.size w w' := by
  cases h : isT part with
  | false => exact readHead_no part w hp h
  | true =>
    obtain ⟨left, hl⟩ := isT_iff.1 h
    exact readHead_yes part left w hp hl
open Go.Proofs.YtdilfbfkeiaafaaGreat.Lea (LS Ls LL LO)
open Go.Proofs.YtdilfbfkeiaafaaGreat.Edi (bel_tr bel_al bel_cell bel_drew)
theorem lx_nil {base : Nat} {w : World} {a : Option Addr} {n c : Nat} {xs : NS} (h : LX base w a n c xs) : a = none → c = 0 := by
  obtain ⟨ps, g, _, hL⟩ := h.ex
  intro ha
  cases hL.cel with
  | nil h1 h2 h3 => cases h1; rfl
  | row g cap h1 hl h2 h3 h4 h5 h6 h7 => cases h1; cases ha
theorem lx_keep {O : Nat → Prop} {base : Nat} {w w' : World} {a : Option Addr} {n c : Nat} {xs : NS} (h : LX base w a n c xs) (hs : Stay O w w') (hO : ∀ k, O k → k < base) : LX base w' a n c xs := by
  obtain ⟨ps, g, h1, hL⟩ := h.ex
  refine ⟨ps, g, h1, hL.stay hs.size (fun k hk => ?_) (fun x hx k hk => ?_)⟩
  · have hc := hL.cel
    rw [hk] at hc
    exact hs.block k hc.lt.1 (fun e => by have := hO k e; have := hc.lt.2; omega)
  · exact hs.block k ((hL.ok x hx).ok.bs.lt k hk) (fun e => by have := hO k e; have := (hL.ok x hx).blk_ge k hk; omega)
theorem lo_keep {O : Nat → Prop} {base : Nat} {w w' : World} {a : Option Addr} {n c : Nat} {xs : LS} {g : Option Nat} (h : LO base w a n c xs g) (hs : Stay O w w') (hO : ∀ k, O k → k < base) : LO base w' a n c xs g :=
  ⟨h.cel.stay hs.size (fun k hk => hs.block k (h.own k hk).1 (fun e => by have := hO k e; have := (h.own k hk).2; omega)) (fun _ e => e), h.len⟩
structure SpOwn (base : Nat) (w : World) (s : Sp) (N L : RS) : Prop where
  lx : LX base w N.a N.n N.c s.ns
  lo : ∃ g, LO base w L.a L.n L.c s.ls g
theorem SpOwn.spIn {base : Nat} {w : World} {s : Sp} {N L : RS} (h : SpOwn base w s N L) : SpIn w s N L := by
  obtain ⟨g, hg⟩ := h.lo
  exact ⟨h.lx.nl, hg.ll, lx_nil h.lx⟩
theorem SpOwn.keep {O : Nat → Prop} {base : Nat} {w w' : World} {s : Sp} {N L : RS} (h : SpOwn base w s N L) (hs : Stay O w w') (hO : ∀ k, O k → k < base) : SpOwn base w' s N L :=
  ⟨lx_keep h.lx hs hO, h.lo.elim fun g hg => ⟨g, lo_keep hg hs hO⟩⟩
theorem SpOwn.below {base : Nat} {w w' : World} {s : Sp} {N L : RS} (h : SpOwn base w s N L) (hb : Below w.heap.size w w') : SpOwn base w' s N L :=
  ⟨h.lx.below hb, h.lo.elim fun g hg => ⟨g, hg.below hb⟩⟩
theorem SpOwn.mono {b1 b2 : Nat} {w : World} {s : Sp} {N L : RS} (h : SpOwn b1 w s N L) (hb : b2 ≤ b1) : SpOwn b2 w s N L :=
  ⟨h.lx.mono hb, h.lo.elim fun g hg => ⟨g, hg.mono hb⟩⟩
structure ReadR (base : Nat) (ps : List ByteArray) (e : Ending) (w' : World) : Prop where
  ex : ∃ (s : Sp) (N L : RS) (v : Bool), e = .returned (.tuple #[spV s N L, .bool v]) ∧ SpOwn base w' s N L ∧ (v = true → ps = partsS s ∧ FitS s) ∧ (v = false → ∀ t, FitS t → ps ≠ partsS t)
theorem spOwn_no (base : Nat) (w : World) (z0 z1 z2 z3 : Int) : SpOwn base w ⟨z0, z1, z2, z3, [], []⟩ noS noS := ⟨LX.no base w, ⟨none, LO.none base w⟩⟩
theorem read_head {p : ByteArray} {qs : List ByteArray} {zs : List Int} (h6 : zs.length = 6) (hp : p = headL zs) {t : Sp} (e : p :: qs = partsS t) : headZ t = zs ∧ qs = t.ns.map nodeP ++ t.ls.map leaseP := by
  unfold partsS at e; simp only [List.cons.injEq] at e
  refine ⟨?_, e.2⟩
  exact (headL_inj (a := headZ t) (b := zs) (r := []) (r' := []) (by rw [h6]; rfl) (by rw [← e.1, hp])).1
theorem read_none {a : Option Addr} {c : Nat} {w : World} :
    Calls Tryz.prog 39 #[.slice a 0 c] w fun e w' => ReadR w.heap.size [] e w' ∧ Below w.heap.size w w' := by
  have HI : Hid (∀ W, ReadR w.heap.size [] (.returned (.tuple #[spV zeroS noS noS, .bool false])) W) := fun W => ⟨zeroS, noS, noS, false, rfl, spOwn_no _ W 0 0 0 0, fun e => (by cases e), fun _ t _ e => by unfold partsS at e; cases e⟩
  have hst2 := sto2
  go_enter Tryz.func39, Tryz.ntmps39; go_wp2; obtain ⟨q0, q1, q2, q3, q4, q5, _⟩ := SpC.new w 27 zeroS noS noS
  simp only [zeroS, noS] at q0 q1 q2 q3 q4 q5
  refine bodyPost_ret (v := .tuple #[spV zeroS noS noS, .bool false]) ?_ rfl ⟨HI.out _, bel_al _ _⟩
  unfold spV zeroS noS; simp only [results, Tryz.results39]
  simp [go_sem, q0, q1, q2, q3, q4, q5]
structure OutN (base : Nat) (w : World) (ps : List ByteArray) (N : RS) (xs : NS) (v : Bool) : Prop where
  lx : LX base w N.a N.n N.c xs
  yes : v = true → ps = xs.map nodeP ∧ ∀ x ∈ xs, FitX x
  no : v = false → ∀ ys : NS, (∀ x ∈ ys, FitX x) → ps ≠ ys.map nodeP
structure OutL (base : Nat) (w : World) (ps : List ByteArray) (L : RS) (xs : LS) (v : Bool) : Prop where
  lo : ∃ g, LO base w L.a L.n L.c xs g
  yes : v = true → ps = xs.map leaseP ∧ ∀ x ∈ xs, FitL x
  no : v = false → ∀ ys : LS, (∀ x ∈ ys, FitL x) → ps ≠ ys.map leaseP
theorem AllN.out {base : Nat} {ps : List ByteArray} {n : Nat} {e : Ending} {w : World} (h : AllN base ps n e w) : ∃ N xs v, e = .returned (.tuple #[.slice N.a N.n N.c, .bool v]) ∧ OutN base w ps N xs v := by
  rcases h.ex with ⟨xs, a, c, rfl, hL, h1, h2⟩ | ⟨rfl, h1⟩
  · exact ⟨⟨a, n, c⟩, xs, true, rfl, hL, fun _ => ⟨h1, h2⟩, fun e => (by cases e)⟩
  · exact ⟨noS, [], false, rfl, LX.no base w, fun e => (by cases e), fun _ => h1⟩
theorem AllL.out {base : Nat} {ps : List ByteArray} {n : Nat} {e : Ending} {w : World} (h : AllL base ps n e w) : ∃ L xs v, e = .returned (.tuple #[.slice L.a L.n L.c, .bool v]) ∧ OutL base w ps L xs v := by
  rcases h.ex with ⟨xs, a, c, g, rfl, hL, h1, h2⟩ | ⟨rfl, h1⟩
  · exact ⟨⟨a, n, c⟩, xs, true, rfl, ⟨g, hL⟩, fun _ => ⟨h1, h2⟩, fun e => (by cases e)⟩
  · exact ⟨noS, [], false, rfl, ⟨none, LO.none base w⟩, fun e => (by cases e), fun _ => h1⟩
theorem OutN.keep {O : Nat → Prop} {base : Nat} {w w' : World} {ps : List ByteArray} {N : RS} {xs : NS} {v : Bool} (h : OutN base w ps N xs v) (hs : Stay O w w') (hO : ∀ k, O k → k < base) : OutN base w' ps N xs v := ⟨lx_keep h.lx hs hO, h.yes, h.no⟩
theorem OutN.below {base : Nat} {w w' : World} {ps : List ByteArray} {N : RS} {xs : NS} {v : Bool} (h : OutN base w ps N xs v) (hb : Below w.heap.size w w') : OutN base w' ps N xs v := ⟨h.lx.below hb, h.yes, h.no⟩
theorem OutL.keep {O : Nat → Prop} {base : Nat} {w w' : World} {ps : List ByteArray} {L : RS} {xs : LS} {v : Bool} (h : OutL base w ps L xs v) (hs : Stay O w w') (hO : ∀ k, O k → k < base) : OutL base w' ps L xs v := ⟨h.lo.elim fun g hg => ⟨g, lo_keep hg hs hO⟩, h.yes, h.no⟩
theorem SpC.nodes {w : World} {b : Nat} {s : Sp} {N L : RS} (h : SpC w b s N L) (xs : NS) (M : RS) : SpC (w.setCell ⟨b, 4, none⟩ (.slice M.a M.n M.c)) b ⟨s.tx, s.nb, s.ng, s.now, xs, s.ls⟩ M L :=
  ⟨(oth (by omega)).trans h.c0, (oth (by omega)).trans h.c1, (oth (by omega)).trans h.c2, (oth (by omega)).trans h.c3, World.cell?_setCell_same _ _ _ h.c4, (oth (by omega)).trans h.c5, fun j => frz.trans (h.fr j)⟩
theorem SpC.leases {w : World} {b : Nat} {s : Sp} {N L : RS} (h : SpC w b s N L) (xs : LS) (M : RS) : SpC (w.setCell ⟨b, 5, none⟩ (.slice M.a M.n M.c)) b ⟨s.tx, s.nb, s.ng, s.now, s.ns, xs⟩ N M :=
  ⟨(oth (by omega)).trans h.c0, (oth (by omega)).trans h.c1, (oth (by omega)).trans h.c2, (oth (by omega)).trans h.c3, (oth (by omega)).trans h.c4, World.cell?_setCell_same _ _ _ h.c5, fun j => frz.trans (h.fr j)⟩
theorem Strs.part {w : World} {b off k : Nat} {qs : List ByteArray} (h : Strs w (some ⟨b, off, none⟩) b off qs) : Strs w (some ⟨b, off, none⟩) b off (qs.take k) :=
  ⟨fun _ => rfl, fun j hj => by
    rw [List.length_take] at hj
    rw [List.getElem_take]
    exact h.cell j (by omega), fun s hs => h.small s (List.mem_of_mem_take hs), by rw [List.length_take]; have := h.len; omega⟩
theorem Strs.rest {w : World} {b off k e : Nat} {qs : List ByteArray} (h : Strs w (some ⟨b, off, none⟩) b off qs) (hk : k ≤ qs.length) (he : qs.length ≤ k + e) : Strs w (if e = 0 then some ⟨b, off, none⟩ else some ⟨b, off + k, none⟩) b (off + k) (qs.drop k) := by
  refine ⟨fun hp => ?_, fun j hj => ?_, fun s hs => h.small s (List.mem_of_mem_drop hs), by rw [List.length_drop]; have := h.len; omega⟩
  · rw [List.length_drop] at hp
    rw [if_neg (by omega)]
  · rw [List.length_drop] at hj
    rw [List.getElem_drop]
    have := h.cell (k + j) (by omega)
    rwa [← Nat.add_assoc] at this
theorem read_yes {p : ByteArray} {qs : List ByteArray} {z0 z1 z2 z3 : Int} {k d : Nat} (hq : qs.length = k + d) (hk : k + d ≤ 900000000) {xs : NS} {ls : LS} (hp : p = headL [z0, z1, z2, z3, (k : Int), (d : Int)]) (hz : ∀ z ∈ [z0, z1, z2, z3, (k : Int), (d : Int)], I64 z) (h1 : qs.take k = xs.map nodeP) (f1 : ∀ x ∈ xs, FitX x) (h2 : qs.drop k = ls.map leaseP) (f2 : ∀ x ∈ ls, FitL x) : p :: qs = partsS ⟨z0, z1, z2, z3, xs, ls⟩ ∧ FitS ⟨z0, z1, z2, z3, xs, ls⟩ := by
  have l1 : xs.length = k := by have := congrArg List.length h1; rw [List.length_take, List.length_map] at this; omega
  have l2 : ls.length = d := by have := congrArg List.length h2; rw [List.length_drop, List.length_map] at this; omega
  refine ⟨?_, hz z0 (by simp), hz z1 (by simp), hz z2 (by simp), hz z3 (by simp), f1, f2, by simp only; omega, by simp only; omega⟩
  unfold partsS headZ; simp only
  rw [l1, l2, ← hp, ← h1, ← h2, List.take_append_drop]
theorem read_bad {p : ByteArray} {qs : List ByteArray} {z0 z1 z2 z3 : Int} {k d : Nat} (hp : p = headL [z0, z1, z2, z3, (k : Int), (d : Int)]) {t : Sp} (e : p :: qs = partsS t) : qs.take k = t.ns.map nodeP ∧ qs.drop k = t.ls.map leaseP := by
  obtain ⟨h1, h2⟩ := read_head rfl hp e
  simp only [headZ, List.cons.injEq, and_true] at h1
  have hl : (t.ns.map nodeP).length = k := by rw [List.length_map]; omega
  rw [h2]
  exact ⟨by rw [← hl, List.take_left], by rw [← hl, List.drop_left]⟩
theorem read_some {b n c : Nat} {p : ByteArray} {qs : List ByteArray} {w : World} (h : Strs w (some ⟨b, 0, none⟩) b 0 (p :: qs)) (hn : qs.length = n) (hc : n ≤ c) (hcm : 1 + c ≤ maxLen) (hk : n ≤ 900000000) :
    Calls Tryz.prog 39 #[.slice (some ⟨b, 0, none⟩) (1 + n) (1 + c)] w fun e w' => ReadR w.heap.size (p :: qs) e w' ∧ Below w.heap.size w w' := by
  have hx : 1 + c ≤ 9223372036854775807 := by unfold maxLen at hcm; omega
  have c0 : w.cell? ⟨b, 0, none⟩ = some (.string p) := h.cell 0 (by simp)
  have hst2 := sto2
  have c0a := cell_al c0
  go_enter Tryz.func39, Tryz.ntmps39; go_wp2_with fail
  refine (readHead_val p _ (h.small p (List.mem_cons_self ..))).mono ?_
  rintro e w1 ⟨⟨z0, z1, z2, z3, z4, z5, v, rfl, hy, hno⟩, b1⟩; have HQ0 : Hid (Strs w1 (if c = 0 then some ⟨b, 0, none⟩ else some ⟨b, 1, none⟩) b 1 qs) := by
    have h1 := (h.below (bel_tr (bel_al _ _) b1))
    have h2 := Strs.rest (k := 1) (e := c) h1 (by simp) (by simp; omega)
    exact h2
  have HBW : Hid (qs ≠ [] → b < w.heap.size) := fun _ => h.lt (by simp)
  have hsz : ∀ o : Obj, (w.alloc o).heap.size = w.heap.size + 1 := fun o => by simp
  have hw1 := b1.size
  rw [hsz] at hw1
  have RB : Hid (SpC w1 w.heap.size zeroS noS noS) := (SpC.new w 27 zeroS noS noS).below b1
  have B1 : Hid (Below w.heap.size w w1) := bel_tr (bel_al _ _) b1
  have HY : Hid (v = true → p = headL [z0, z1, z2, z3, z4, z5] ∧ ∀ z ∈ [z0, z1, z2, z3, z4, z5], I64 z) := hy
  have HNO : Hid (v = false → ∀ zs : List Int, zs.length = 6 → (∀ z ∈ zs, I64 z) → p ≠ headL zs) := hno
  have HQL : Hid (qs.length = n) := hn
  clear b1 hy hno h c0 c0a hsz hn; have HZ : Hid (∀ W, SpC W w.heap.size zeroS noS noS → Below w.heap.size w W → (∀ t, FitS t → p :: qs ≠ partsS t) → SpC (Spa.put6 W w.heap.size zeroS noS noS) w.heap.size zeroS noS noS ∧ ReadR w.heap.size (p :: qs) (.returned (.tuple #[spV zeroS noS noS, .bool false])) (Spa.put6 W w.heap.size zeroS noS noS) ∧ Below w.heap.size w (Spa.put6 W w.heap.size zeroS noS noS)) := fun W h1 h2 h3 => ⟨(put6_at h1 _ _ _).1, ⟨zeroS, noS, noS, false, rfl, spOwn_no _ _ 0 0 0 0, fun e => (by cases e), fun _ => h3⟩, bel_put6 h2 h1 (Nat.le_refl _) _ _ _⟩
  unfold spV noS; go_upto_region 5 with fail
  have RB2 : Hid (SpC (w1.alloc (.cells #[.int .i64 z0, .int .i64 z1, .int .i64 z2, .int .i64 z3, .slice none 0 0, .slice none 0 0] 27)) w.heap.size zeroS noS noS) := RB.out.below (bel_al _ _)
  have QB2 : Hid (SpC (w1.alloc (.cells #[.int .i64 z0, .int .i64 z1, .int .i64 z2, .int .i64 z3, .slice none 0 0, .slice none 0 0] 27)) w1.heap.size ⟨z0, z1, z2, z3, [], []⟩ noS noS) := SpC.new w1 27 ⟨z0, z1, z2, z3, [], []⟩ noS noS
  have B2 : Hid (Below w.heap.size w (w1.alloc (.cells #[.int .i64 z0, .int .i64 z1, .int .i64 z2, .int .i64 z3, .slice none 0 0, .slice none 0 0] 27))) := bel_tr B1.out (bel_al _ _)
  have HQ2 : Hid (Strs (w1.alloc (.cells #[.int .i64 z0, .int .i64 z1, .int .i64 z2, .int .i64 z3, .slice none 0 0, .slice none 0 0] 27)) (if c = 0 then some ⟨b, 0, none⟩ else some ⟨b, 1, none⟩) b 1 qs) := HQ0.out.below (bel_al _ _)
  have hQ1 : w.heap.size < w1.heap.size := by omega
  generalize w1.alloc (.cells #[.int .i64 z0, .int .i64 z1, .int .i64 z2, .int .i64 z3, .slice none 0 0, .slice none 0 0] 27) = W2 at *
  generalize w1.heap.size = Q at *
  clear RB B1 HQ0 hw1; obtain ⟨off, hoff, HQ3⟩ : ∃ off, (if c = 0 then some (⟨b, 0, none⟩ : Addr) else some ⟨b, 1, none⟩) = some ⟨b, off, none⟩ ∧ Hid (Strs W2 (some ⟨b, off, none⟩) b off qs) := by
    by_cases h0 : c = 0
    · have hq0 : qs = [] := List.length_eq_zero_iff.1 (by rw [HQL.out]; omega)
      refine ⟨0, by rw [if_pos h0], ?_⟩
      show Strs W2 (some ⟨b, 0, none⟩) b 0 qs
      rw [hq0]
      exact ⟨fun hp => by simp at hp, fun j hj => by simp at hj, by simp, by simp⟩
    · refine ⟨1, by rw [if_neg h0], ?_⟩
      have h1 := HQ2.out
      rw [if_neg h0] at h1
      exact h1
  rw [hoff]
  clear HQ2 hoff; cases v with
  | false =>
    have hz := HZ.out W2 RB2.out B2.out (fun t ht e => by
      unfold partsS at e; simp only [List.cons.injEq] at e
      exact HNO.out rfl (headZ t) rfl ht.hz e.1)
    have HP : Hid _ := hz
    clear hz HZ HY HNO HQ3 QB2; rw [put6_def] at HP
    unfold noS zeroS spV at HP; simp only at HP
    obtain ⟨r0, r1, r2, r3, r4, r5, rf⟩ := RB2.out
    simp only [zeroS, noS] at r0 r1 r2 r3 r4 r5
    go_wp2; obtain ⟨q0, q1, q2, q3, q4, q5, _⟩ := HP.out.1
    refine bodyPost_ret (v := .tuple #[.agg #[.int .i64 0, .int .i64 0, .int .i64 0, .int .i64 0, .slice none 0 0, .slice none 0 0], .bool false]) ?_ rfl ⟨HP.out.2.1, HP.out.2.2⟩
    simp only [results, Tryz.results39]
    simp [go_sem, q0, q1, q2, q3, q4, q5]
  | true =>
    obtain ⟨hp, hz⟩ := HY.out rfl
    have HP : Hid (p = headL [z0, z1, z2, z3, z4, z5]) := hp
    have HZZ : Hid (∀ z ∈ [z0, z1, z2, z3, z4, z5], I64 z) := hz
    clear hp hz HY HNO; by_cases hk4 : 0 ≤ z4 ∧ z4 ≤ (n : Int)
    · obtain ⟨k, rfl⟩ : ∃ k : Nat, z4 = (k : Int) := ⟨z4.toNat, by omega⟩
      obtain ⟨d, rfl⟩ : ∃ d, n = k + d := ⟨n - k, by omega⟩
      obtain ⟨q, rfl⟩ : ∃ q, c = k + q := ⟨c - k, by omega⟩
      have G1 : Hid ((decide ((0 : Int) ≤ (k : Int)) && decide ((k : Int) ≤ ((k + d : Nat) : Int))) = true) := by
        show (_ && _) = true
        rw [decide_eq_true (by omega), decide_eq_true (by omega)]; rfl
      by_cases hk5 : z5 = (d : Int)
      · subst hk5
        clear HZ hk4; have hdq : d ≤ q := by omega
        by_cases hq0 : q = 0
        · subst hq0
          obtain ⟨y0, y1, y2, y3, y4, y5, yf⟩ := QB2.out
          simp only [noS] at y4 y5
          have C1 : Hid (∀ W, Below W2.heap.size W2 W → Calls Tryz.prog 79 #[.slice (some ⟨b, off, none⟩) k (k), .func (.func 80) #[] #[]] W fun e w' => AllN W.heap.size (qs.take k) k e w' ∧ Below W.heap.size W w') := fun W hb => readNodes_val (Strs.part (HQ3.out.below hb)) (by rw [List.length_take, HQL.out]; omega) (by omega) (fun p hp => HQ3.out.small p (List.mem_of_mem_take hp))
          have C2 : Hid (∀ W, Strs W (some ⟨b, off, none⟩) b off qs → Calls Tryz.prog 81 #[.slice (some ⟨b, off, none⟩) d 0, .func (.func 82) #[] #[]] W fun e w' => AllL W.heap.size (qs.drop k) d e w' ∧ Below W.heap.size W w') := fun W hb => readLeases_val (by have h9 := Strs.rest (e := 0) (k := k) hb (by rw [HQL.out]; omega) (by rw [HQL.out]; omega); rw [if_pos rfl] at h9; exact h9) (by rw [List.length_drop, HQL.out]; omega) (by omega) (fun p hp => HQ3.out.small p (List.mem_of_mem_drop hp))
          have hQ2 := World.block_lt_of_cell? _ _ QB2.out.c0
          have hbw : qs = [] ∨ b < w.heap.size := by
            by_cases hq0 : qs = []
            · exact .inl hq0
            · exact .inr (HBW.out hq0)
          go_wp2_with (go_at_call 78; refine (within_i _ 0 _ true _ G1.out).mono ?_; rintro e wq ⟨rfl, hwq⟩; subst wq)
          refine (C1.out _ (Below.refl _ _)).mono ?_
          rintro e w3 ⟨ho, b3⟩; obtain ⟨⟨Na, Nn, Nc⟩, xs, v1, rfl, hON⟩ := ho.out
          have ON : Hid (OutN W2.heap.size w3 (qs.take k) ⟨Na, Nn, Nc⟩ xs v1) := hON
          have Q3 : Hid (SpC w3 Q ⟨z0, z1, z2, z3, [], []⟩ noS noS) := QB2.out.below b3
          have R3 : Hid (SpC w3 w.heap.size zeroS noS noS) := RB2.out.below b3
          have B3 : Hid (Below w.heap.size w w3) := bel_tr B2.out b3
          have S3 : Hid (Strs w3 (some ⟨b, off, none⟩) b off qs) := HQ3.out.below b3
          have hs3 := b3.size
          clear ho hON b3 y0 y1 y2 y3 y4 y5 yf QB2 RB2 B2; have sN : Stay (fun i => i = Q) w3 (w3.setCell ⟨Q, 4, none⟩ (.slice Na Nn Nc)) := Stay.setCell _ _ _ rfl
          have ON4 : Hid (OutN W2.heap.size (w3.setCell ⟨Q, 4, none⟩ (.slice Na Nn Nc)) (qs.take k) ⟨Na, Nn, Nc⟩ xs v1) := ON.out.keep sN (fun i hi => by rw [hi]; exact hQ2)
          have Q4 : Hid (SpC (w3.setCell ⟨Q, 4, none⟩ (.slice Na Nn Nc)) Q ⟨z0, z1, z2, z3, xs, []⟩ ⟨Na, Nn, Nc⟩ noS) := SpC.nodes Q3.out xs ⟨Na, Nn, Nc⟩
          have R4 : Hid (SpC (w3.setCell ⟨Q, 4, none⟩ (.slice Na Nn Nc)) w.heap.size zeroS noS noS) := R3.out.keep sN (by omega)
          have B4 : Hid (Below w.heap.size w (w3.setCell ⟨Q, 4, none⟩ (.slice Na Nn Nc))) := bel_stay B3.out sN (fun i hi => by rw [hi]; omega)
          have S4 : Hid (Strs (w3.setCell ⟨Q, 4, none⟩ (.slice Na Nn Nc)) (some ⟨b, off, none⟩) b off qs) := by
            refine ⟨fun _ => rfl, fun j hj => ?_, S3.out.small, S3.out.len⟩
            refine Stay.cell sN (S3.out.cell j hj) ?_
            show ¬ b = Q
            rcases hbw with h0 | h0
            · rw [h0] at hj; simp at hj
            · omega
          have hs4 : W2.heap.size ≤ (w3.setCell ⟨Q, 4, none⟩ (.slice Na Nn Nc)).heap.size := Nat.le_trans hs3 sN.size
          obtain ⟨_, _, _, _, y4, _, yf⟩ := Q3.out
          have yf4 := yf 4
          simp only [noS] at y4
          clear sN ON Q3 R3 B3 S3 hs3; go_wp2_with fail
          generalize w3.setCell ⟨Q, 4, none⟩ (.slice Na Nn Nc) = w4 at *
          clear y4 yf yf4; refine (C2.out _ S4.out).mono ?_
          rintro e w5 ⟨ho, b5⟩; obtain ⟨⟨La, Ln, Lc⟩, ls, v2, rfl, hOL⟩ := ho.out
          have OL : Hid (OutL w4.heap.size w5 (qs.drop k) ⟨La, Ln, Lc⟩ ls v2) := hOL
          have sL : Stay (fun i => i = Q) w5 (w5.setCell ⟨Q, 5, none⟩ (.slice La Ln Lc)) := Stay.setCell _ _ _ rfl
          have hQ4 : Q < w4.heap.size := World.block_lt_of_cell? _ _ Q4.out.c0
          have hR4 : w.heap.size < w4.heap.size := by omega
          have ON6 : Hid (OutN W2.heap.size (w5.setCell ⟨Q, 5, none⟩ (.slice La Ln Lc)) (qs.take k) ⟨Na, Nn, Nc⟩ xs v1) := (ON4.out.below b5).keep sL (fun i hi => by rw [hi]; exact hQ2)
          have OL6 : Hid (OutL w4.heap.size (w5.setCell ⟨Q, 5, none⟩ (.slice La Ln Lc)) (qs.drop k) ⟨La, Ln, Lc⟩ ls v2) := OL.out.keep sL (fun i hi => by rw [hi]; exact hQ4)
          have Q6 : Hid (SpC (w5.setCell ⟨Q, 5, none⟩ (.slice La Ln Lc)) Q ⟨z0, z1, z2, z3, xs, ls⟩ ⟨Na, Nn, Nc⟩ ⟨La, Ln, Lc⟩) := SpC.leases (Q4.out.below b5) ls ⟨La, Ln, Lc⟩
          have R6 : Hid (SpC (w5.setCell ⟨Q, 5, none⟩ (.slice La Ln Lc)) w.heap.size zeroS noS noS) := (R4.out.below b5).keep sL (by omega)
          have B6 : Hid (Below w.heap.size w (w5.setCell ⟨Q, 5, none⟩ (.slice La Ln Lc))) := bel_stay (bel_tr B4.out b5) sL (fun i hi => by rw [hi]; omega)
          obtain ⟨_, _, _, _, _, y5, yf⟩ := Q4.out.below b5
          have yf5 := yf 5
          simp only [noS] at y5
          clear ho hOL b5 OL sL ON4 Q4 R4 B4 S4; go_upto_region 10 with fail
          generalize w5.setCell ⟨Q, 5, none⟩ (.slice La Ln Lc) = w6 at *
          clear y5 yf yf5; have pR := put6_at R6.out ⟨z0, z1, z2, z3, xs, ls⟩ ⟨Na, Nn, Nc⟩ ⟨La, Ln, Lc⟩
          have HFIN : Hid (SpC (Spa.put6 w6 w.heap.size ⟨z0, z1, z2, z3, xs, ls⟩ ⟨Na, Nn, Nc⟩ ⟨La, Ln, Lc⟩) w.heap.size ⟨z0, z1, z2, z3, xs, ls⟩ ⟨Na, Nn, Nc⟩ ⟨La, Ln, Lc⟩ ∧ Below w.heap.size w (Spa.put6 w6 w.heap.size ⟨z0, z1, z2, z3, xs, ls⟩ ⟨Na, Nn, Nc⟩ ⟨La, Ln, Lc⟩) ∧ SpOwn w.heap.size (Spa.put6 w6 w.heap.size ⟨z0, z1, z2, z3, xs, ls⟩ ⟨Na, Nn, Nc⟩ ⟨La, Ln, Lc⟩) ⟨z0, z1, z2, z3, xs, ls⟩ ⟨Na, Nn, Nc⟩ ⟨La, Ln, Lc⟩) := by
            have n7 := ON6.out.keep pR.2 (fun i hi => by rw [hi]; omega)
            obtain ⟨g, hg⟩ := (OL6.out.keep pR.2 (fun i hi => by rw [hi]; omega)).lo
            exact ⟨pR.1, bel_put6 B6.out R6.out (Nat.le_refl _) _ _ _, n7.lx.mono (by omega), ⟨g, hg.mono (by omega)⟩⟩
          have HVV : Hid ((v1 = true → v2 = true → p :: qs = partsS ⟨z0, z1, z2, z3, xs, ls⟩ ∧ FitS ⟨z0, z1, z2, z3, xs, ls⟩) ∧ ((v1 = false ∨ v2 = false) → ∀ t, FitS t → p :: qs ≠ partsS t)) := by
            refine ⟨fun e1 e2 => ?_, fun e t ht et => ?_⟩
            · obtain ⟨a1, a2⟩ := ON6.out.yes e1
              obtain ⟨a3, a4⟩ := OL6.out.yes e2
              exact read_yes HQL.out hk HP.out HZZ.out a1 a2 a3 a4
            · obtain ⟨a1, a2⟩ := read_bad HP.out et
              rcases e with e | e
              · exact ON6.out.no e t.ns ht.ns a1
              · exact OL6.out.no e t.ls ht.ls a2
          rw [put6_def] at HFIN
          simp only at HFIN
          obtain ⟨n0, n1, n2, n3, n4, n5, _⟩ := Q6.out
          obtain ⟨r0, r1, r2, r3, r4, r5, rf⟩ := R6.out
          simp only [zeroS, noS] at r0 r1 r2 r3 r4 r5 n0 n1 n2 n3 n4 n5
          clear pR ON6 OL6 Q6 R6 B6 C1 C2 HQ3; cases v1 with
          | false =>
            have H9 : Hid (∀ t, FitS t → p :: qs ≠ partsS t) := HVV.out.2 (.inl rfl)
            clear HVV; go_wp2; obtain ⟨q0, q1, q2, q3, q4, q5, _⟩ := HFIN.out.1
            refine bodyPost_ret (v := .tuple #[spV ⟨z0, z1, z2, z3, xs, ls⟩ ⟨Na, Nn, Nc⟩ ⟨La, Ln, Lc⟩, .bool false]) ?_ rfl ⟨⟨⟨z0, z1, z2, z3, xs, ls⟩, ⟨Na, Nn, Nc⟩, ⟨La, Ln, Lc⟩, false, rfl, HFIN.out.2.2, fun e => (by cases e), fun _ => H9.out⟩, HFIN.out.2.1⟩
            unfold spV; simp only [results, Tryz.results39]
            simp [go_sem, q0, q1, q2, q3, q4, q5]
          | true =>
            have H8 : Hid (v2 = true → p :: qs = partsS ⟨z0, z1, z2, z3, xs, ls⟩ ∧ FitS ⟨z0, z1, z2, z3, xs, ls⟩) := fun e => HVV.out.1 rfl e
            have H9 : Hid (v2 = false → ∀ t, FitS t → p :: qs ≠ partsS t) := fun e => HVV.out.2 (.inr e)
            clear HVV; go_wp2; obtain ⟨q0, q1, q2, q3, q4, q5, _⟩ := HFIN.out.1
            refine bodyPost_ret (v := .tuple #[spV ⟨z0, z1, z2, z3, xs, ls⟩ ⟨Na, Nn, Nc⟩ ⟨La, Ln, Lc⟩, .bool v2]) ?_ rfl ⟨⟨⟨z0, z1, z2, z3, xs, ls⟩, ⟨Na, Nn, Nc⟩, ⟨La, Ln, Lc⟩, v2, rfl, HFIN.out.2.2, H8.out, H9.out⟩, HFIN.out.2.1⟩
            unfold spV; simp only [results, Tryz.results39]
            simp [go_sem, q0, q1, q2, q3, q4, q5]
        · obtain ⟨y0, y1, y2, y3, y4, y5, yf⟩ := QB2.out
          simp only [noS] at y4 y5
          have C1 : Hid (∀ W, Below W2.heap.size W2 W → Calls Tryz.prog 79 #[.slice (some ⟨b, off, none⟩) k (k + q), .func (.func 80) #[] #[]] W fun e w' => AllN W.heap.size (qs.take k) k e w' ∧ Below W.heap.size W w') := fun W hb => readNodes_val (Strs.part (HQ3.out.below hb)) (by rw [List.length_take, HQL.out]; omega) (by omega) (fun p hp => HQ3.out.small p (List.mem_of_mem_take hp))
          have C2 : Hid (∀ W, Strs W (some ⟨b, off, none⟩) b off qs → Calls Tryz.prog 81 #[.slice (some ⟨b, off + k, none⟩) d q, .func (.func 82) #[] #[]] W fun e w' => AllL W.heap.size (qs.drop k) d e w' ∧ Below W.heap.size W w') := fun W hb => readLeases_val (by have h9 := Strs.rest (e := q) (k := k) hb (by rw [HQL.out]; omega) (by rw [HQL.out]; omega); rw [if_neg hq0] at h9; exact h9) (by rw [List.length_drop, HQL.out]; omega) (by omega) (fun p hp => HQ3.out.small p (List.mem_of_mem_drop hp))
          have hQ2 := World.block_lt_of_cell? _ _ QB2.out.c0
          have hbw : qs = [] ∨ b < w.heap.size := by
            by_cases hq0 : qs = []
            · exact .inl hq0
            · exact .inr (HBW.out hq0)
          go_wp2_with (go_at_call 78; refine (within_i _ 0 _ true _ G1.out).mono ?_; rintro e wq ⟨rfl, hwq⟩; subst wq)
          refine (C1.out _ (Below.refl _ _)).mono ?_
          rintro e w3 ⟨ho, b3⟩; obtain ⟨⟨Na, Nn, Nc⟩, xs, v1, rfl, hON⟩ := ho.out
          have ON : Hid (OutN W2.heap.size w3 (qs.take k) ⟨Na, Nn, Nc⟩ xs v1) := hON
          have Q3 : Hid (SpC w3 Q ⟨z0, z1, z2, z3, [], []⟩ noS noS) := QB2.out.below b3
          have R3 : Hid (SpC w3 w.heap.size zeroS noS noS) := RB2.out.below b3
          have B3 : Hid (Below w.heap.size w w3) := bel_tr B2.out b3
          have S3 : Hid (Strs w3 (some ⟨b, off, none⟩) b off qs) := HQ3.out.below b3
          have hs3 := b3.size
          clear ho hON b3 y0 y1 y2 y3 y4 y5 yf QB2 RB2 B2; have sN : Stay (fun i => i = Q) w3 (w3.setCell ⟨Q, 4, none⟩ (.slice Na Nn Nc)) := Stay.setCell _ _ _ rfl
          have ON4 : Hid (OutN W2.heap.size (w3.setCell ⟨Q, 4, none⟩ (.slice Na Nn Nc)) (qs.take k) ⟨Na, Nn, Nc⟩ xs v1) := ON.out.keep sN (fun i hi => by rw [hi]; exact hQ2)
          have Q4 : Hid (SpC (w3.setCell ⟨Q, 4, none⟩ (.slice Na Nn Nc)) Q ⟨z0, z1, z2, z3, xs, []⟩ ⟨Na, Nn, Nc⟩ noS) := SpC.nodes Q3.out xs ⟨Na, Nn, Nc⟩
          have R4 : Hid (SpC (w3.setCell ⟨Q, 4, none⟩ (.slice Na Nn Nc)) w.heap.size zeroS noS noS) := R3.out.keep sN (by omega)
          have B4 : Hid (Below w.heap.size w (w3.setCell ⟨Q, 4, none⟩ (.slice Na Nn Nc))) := bel_stay B3.out sN (fun i hi => by rw [hi]; omega)
          have S4 : Hid (Strs (w3.setCell ⟨Q, 4, none⟩ (.slice Na Nn Nc)) (some ⟨b, off, none⟩) b off qs) := by
            refine ⟨fun _ => rfl, fun j hj => ?_, S3.out.small, S3.out.len⟩
            refine Stay.cell sN (S3.out.cell j hj) ?_
            show ¬ b = Q
            rcases hbw with h0 | h0
            · rw [h0] at hj; simp at hj
            · omega
          have hs4 : W2.heap.size ≤ (w3.setCell ⟨Q, 4, none⟩ (.slice Na Nn Nc)).heap.size := Nat.le_trans hs3 sN.size
          obtain ⟨_, _, _, _, y4, _, yf⟩ := Q3.out
          have yf4 := yf 4
          simp only [noS] at y4
          clear sN ON Q3 R3 B3 S3 hs3; go_wp2_with fail
          generalize w3.setCell ⟨Q, 4, none⟩ (.slice Na Nn Nc) = w4 at *
          clear y4 yf yf4; refine (C2.out _ S4.out).mono ?_
          rintro e w5 ⟨ho, b5⟩; obtain ⟨⟨La, Ln, Lc⟩, ls, v2, rfl, hOL⟩ := ho.out
          have OL : Hid (OutL w4.heap.size w5 (qs.drop k) ⟨La, Ln, Lc⟩ ls v2) := hOL
          have sL : Stay (fun i => i = Q) w5 (w5.setCell ⟨Q, 5, none⟩ (.slice La Ln Lc)) := Stay.setCell _ _ _ rfl
          have hQ4 : Q < w4.heap.size := World.block_lt_of_cell? _ _ Q4.out.c0
          have hR4 : w.heap.size < w4.heap.size := by omega
          have ON6 : Hid (OutN W2.heap.size (w5.setCell ⟨Q, 5, none⟩ (.slice La Ln Lc)) (qs.take k) ⟨Na, Nn, Nc⟩ xs v1) := (ON4.out.below b5).keep sL (fun i hi => by rw [hi]; exact hQ2)
          have OL6 : Hid (OutL w4.heap.size (w5.setCell ⟨Q, 5, none⟩ (.slice La Ln Lc)) (qs.drop k) ⟨La, Ln, Lc⟩ ls v2) := OL.out.keep sL (fun i hi => by rw [hi]; exact hQ4)
          have Q6 : Hid (SpC (w5.setCell ⟨Q, 5, none⟩ (.slice La Ln Lc)) Q ⟨z0, z1, z2, z3, xs, ls⟩ ⟨Na, Nn, Nc⟩ ⟨La, Ln, Lc⟩) := SpC.leases (Q4.out.below b5) ls ⟨La, Ln, Lc⟩
          have R6 : Hid (SpC (w5.setCell ⟨Q, 5, none⟩ (.slice La Ln Lc)) w.heap.size zeroS noS noS) := (R4.out.below b5).keep sL (by omega)
          have B6 : Hid (Below w.heap.size w (w5.setCell ⟨Q, 5, none⟩ (.slice La Ln Lc))) := bel_stay (bel_tr B4.out b5) sL (fun i hi => by rw [hi]; omega)
          obtain ⟨_, _, _, _, _, y5, yf⟩ := Q4.out.below b5
          have yf5 := yf 5
          simp only [noS] at y5
          clear ho hOL b5 OL sL ON4 Q4 R4 B4 S4; go_upto_region 10 with fail
          generalize w5.setCell ⟨Q, 5, none⟩ (.slice La Ln Lc) = w6 at *
          clear y5 yf yf5; have pR := put6_at R6.out ⟨z0, z1, z2, z3, xs, ls⟩ ⟨Na, Nn, Nc⟩ ⟨La, Ln, Lc⟩
          have HFIN : Hid (SpC (Spa.put6 w6 w.heap.size ⟨z0, z1, z2, z3, xs, ls⟩ ⟨Na, Nn, Nc⟩ ⟨La, Ln, Lc⟩) w.heap.size ⟨z0, z1, z2, z3, xs, ls⟩ ⟨Na, Nn, Nc⟩ ⟨La, Ln, Lc⟩ ∧ Below w.heap.size w (Spa.put6 w6 w.heap.size ⟨z0, z1, z2, z3, xs, ls⟩ ⟨Na, Nn, Nc⟩ ⟨La, Ln, Lc⟩) ∧ SpOwn w.heap.size (Spa.put6 w6 w.heap.size ⟨z0, z1, z2, z3, xs, ls⟩ ⟨Na, Nn, Nc⟩ ⟨La, Ln, Lc⟩) ⟨z0, z1, z2, z3, xs, ls⟩ ⟨Na, Nn, Nc⟩ ⟨La, Ln, Lc⟩) := by
            have n7 := ON6.out.keep pR.2 (fun i hi => by rw [hi]; omega)
            obtain ⟨g, hg⟩ := (OL6.out.keep pR.2 (fun i hi => by rw [hi]; omega)).lo
            exact ⟨pR.1, bel_put6 B6.out R6.out (Nat.le_refl _) _ _ _, n7.lx.mono (by omega), ⟨g, hg.mono (by omega)⟩⟩
          have HVV : Hid ((v1 = true → v2 = true → p :: qs = partsS ⟨z0, z1, z2, z3, xs, ls⟩ ∧ FitS ⟨z0, z1, z2, z3, xs, ls⟩) ∧ ((v1 = false ∨ v2 = false) → ∀ t, FitS t → p :: qs ≠ partsS t)) := by
            refine ⟨fun e1 e2 => ?_, fun e t ht et => ?_⟩
            · obtain ⟨a1, a2⟩ := ON6.out.yes e1
              obtain ⟨a3, a4⟩ := OL6.out.yes e2
              exact read_yes HQL.out hk HP.out HZZ.out a1 a2 a3 a4
            · obtain ⟨a1, a2⟩ := read_bad HP.out et
              rcases e with e | e
              · exact ON6.out.no e t.ns ht.ns a1
              · exact OL6.out.no e t.ls ht.ls a2
          rw [put6_def] at HFIN
          simp only at HFIN
          obtain ⟨n0, n1, n2, n3, n4, n5, _⟩ := Q6.out
          obtain ⟨r0, r1, r2, r3, r4, r5, rf⟩ := R6.out
          simp only [zeroS, noS] at r0 r1 r2 r3 r4 r5 n0 n1 n2 n3 n4 n5
          clear pR ON6 OL6 Q6 R6 B6 C1 C2 HQ3; cases v1 with
          | false =>
            have H9 : Hid (∀ t, FitS t → p :: qs ≠ partsS t) := HVV.out.2 (.inl rfl)
            clear HVV; go_wp2; obtain ⟨q0, q1, q2, q3, q4, q5, _⟩ := HFIN.out.1
            refine bodyPost_ret (v := .tuple #[spV ⟨z0, z1, z2, z3, xs, ls⟩ ⟨Na, Nn, Nc⟩ ⟨La, Ln, Lc⟩, .bool false]) ?_ rfl ⟨⟨⟨z0, z1, z2, z3, xs, ls⟩, ⟨Na, Nn, Nc⟩, ⟨La, Ln, Lc⟩, false, rfl, HFIN.out.2.2, fun e => (by cases e), fun _ => H9.out⟩, HFIN.out.2.1⟩
            unfold spV; simp only [results, Tryz.results39]
            simp [go_sem, q0, q1, q2, q3, q4, q5]
          | true =>
            have H8 : Hid (v2 = true → p :: qs = partsS ⟨z0, z1, z2, z3, xs, ls⟩ ∧ FitS ⟨z0, z1, z2, z3, xs, ls⟩) := fun e => HVV.out.1 rfl e
            have H9 : Hid (v2 = false → ∀ t, FitS t → p :: qs ≠ partsS t) := fun e => HVV.out.2 (.inr e)
            clear HVV; go_wp2; obtain ⟨q0, q1, q2, q3, q4, q5, _⟩ := HFIN.out.1
            refine bodyPost_ret (v := .tuple #[spV ⟨z0, z1, z2, z3, xs, ls⟩ ⟨Na, Nn, Nc⟩ ⟨La, Ln, Lc⟩, .bool v2]) ?_ rfl ⟨⟨⟨z0, z1, z2, z3, xs, ls⟩, ⟨Na, Nn, Nc⟩, ⟨La, Ln, Lc⟩, v2, rfl, HFIN.out.2.2, H8.out, H9.out⟩, HFIN.out.2.1⟩
            unfold spV; simp only [results, Tryz.results39]
            simp [go_sem, q0, q1, q2, q3, q4, q5]
      · have hne5 : (z5 != (d : Int)) = true := by simpa using hk5
        have hz := HZ.out W2 RB2.out B2.out (fun t ht e => by
          obtain ⟨h1, h2⟩ := read_head rfl HP.out e
          have hl := congrArg List.length h2
          simp only [headZ, List.cons.injEq, and_true] at h1
          rw [List.length_append, List.length_map, List.length_map, HQL.out] at hl
          omega)
        have HPP : Hid _ := hz
        clear hz HZ HQ3 QB2; rw [put6_def] at HPP
        unfold noS zeroS spV at HPP; simp only at HPP
        obtain ⟨r0, r1, r2, r3, r4, r5, rf⟩ := RB2.out
        simp only [zeroS, noS] at r0 r1 r2 r3 r4 r5
        go_wp2_with (go_at_call 78; refine (within_i _ 0 _ true _ G1.out).mono ?_; rintro e wq ⟨rfl, hwq⟩; subst wq)
        obtain ⟨q0, q1, q2, q3, q4, q5, _⟩ := HPP.out.1
        refine bodyPost_ret (v := .tuple #[.agg #[.int .i64 0, .int .i64 0, .int .i64 0, .int .i64 0, .slice none 0 0, .slice none 0 0], .bool false]) ?_ rfl ⟨HPP.out.2.1, HPP.out.2.2⟩
        simp only [results, Tryz.results39]
        simp [go_sem, q0, q1, q2, q3, q4, q5]
    · have G1 : Hid ((decide ((0 : Int) ≤ z4) && decide (z4 ≤ (n : Int))) = false) := by
        show (_ && _) = false
        rw [Bool.eq_false_iff]
        intro e
        simp only [Bool.and_eq_true, decide_eq_true_eq] at e
        exact hk4 e
      have hz := HZ.out W2 RB2.out B2.out (fun t ht e => by
        obtain ⟨h1, h2⟩ := read_head rfl HP.out e
        have hl := congrArg List.length h2
        simp only [headZ, List.cons.injEq, and_true] at h1
        rw [List.length_append, List.length_map, List.length_map, HQL.out] at hl
        omega)
      have HPP : Hid _ := hz
      clear hz HZ HQ3 QB2; rw [put6_def] at HPP
      unfold noS zeroS spV at HPP; simp only at HPP
      obtain ⟨r0, r1, r2, r3, r4, r5, rf⟩ := RB2.out
      simp only [zeroS, noS] at r0 r1 r2 r3 r4 r5
      go_wp2_with (go_at_call 78; refine (within_i _ 0 _ false _ G1.out).mono ?_; rintro e wq ⟨rfl, hwq⟩; subst wq)
      obtain ⟨q0, q1, q2, q3, q4, q5, _⟩ := HPP.out.1
      refine bodyPost_ret (v := .tuple #[.agg #[.int .i64 0, .int .i64 0, .int .i64 0, .int .i64 0, .slice none 0 0, .slice none 0 0], .bool false]) ?_ rfl ⟨HPP.out.2.1, HPP.out.2.2⟩
      simp only [results, Tryz.results39]
      simp [go_sem, q0, q1, q2, q3, q4, q5]
end Go.Proofs.YtdilfbfkeiaafaaGreat.Img
namespace Go.Proofs.YtdilfbfkeiaafaaGreat.Spa
open Go.RowKit Go.Proofs.YtdilfbfkeiaafaaGreat
open Go.Proofs.YtdilfbfkeiaafaaGreat.Edi (Ed Nm EdAt edV)
structure Apt (B q R : Nat) (w : World) (t : Sp) (N L : RS) : Prop where
  ex : ∃ ps g gl base M, OwnM base M w t N L ps g gl ∧ (q < base ∨ M ≤ q) ∧ (R < base ∨ M ≤ R) ∧ B ≤ base
theorem Apt.below {B q R : Nat} {w w' : World} {t : Sp} {N L : RS} (h : Apt B q R w t N L) (hb : Below w.heap.size w w') : Apt B q R w' t N L := by
  obtain ⟨ps, g, gl, base, M, h1, h2, h3, h4⟩ := h.ex
  exact ⟨ps, g, gl, base, M, h1.below hb, h2, h3, h4⟩
theorem Apt.put {B q R : Nat} {w : World} {t s0 : Sp} {N L N0 L0 : RS} (h : Apt B q R w t N L) (hS : SpC w q s0 N0 L0) : Apt B q R (put6 w q t N L) t N L := by
  obtain ⟨ps, g, gl, base, M, h1, h2, h3, h4⟩ := h.ex
  exact ⟨ps, g, gl, base, M, h1.out (put6_at hS t N L).2 (fun k hk => by rw [hk]; exact h2), h2, h3, h4⟩
theorem Apt.putR {B q R : Nat} {w : World} {t s0 : Sp} {N L N0 L0 : RS} (h : Apt B q R w t N L) (hS : SpC w R s0 N0 L0) : Apt B q R (put6 w R t N L) t N L := by
  obtain ⟨ps, g, gl, base, M, h1, h2, h3, h4⟩ := h.ex
  exact ⟨ps, g, gl, base, M, h1.out (put6_at hS t N L).2 (fun k hk => by rw [hk]; exact h3), h2, h3, h4⟩
theorem Apt.spIn {B q R : Nat} {w : World} {t : Sp} {N L : RS} (h : Apt B q R w t N L) : SpIn w t N L := by
  obtain ⟨ps, g, gl, base, M, h1, _⟩ := h.ex
  exact h1.spIn
end Go.Proofs.YtdilfbfkeiaafaaGreat.Spa
