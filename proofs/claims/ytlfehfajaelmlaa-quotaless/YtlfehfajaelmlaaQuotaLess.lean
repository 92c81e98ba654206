/- QuotaLess: for every list of nodes, every three numbers and every string: the statement's function returns true; nothing that was there is changed. No condition. -/
import Derived.Test.YtlfehfajaelmlaaQuotaD
import Derived.Test.YtlfehfajaelmlaaTreeOpen
namespace Go.Proofs.Ytlfehfajaelmlaa.quotaLess
open Go.ChangeShapes Go.WideShapes Go.ChangeAt Go.RowKit
open Go.ChangeMaps (open_string shut_string)
set_option linter.unusedVariables false

theorem own : ownKnob Try.prog.godebug = none := by kernel_rfl

def keepN (a : Int) : Nat := if a < 0 then (-(a + 1)).toNat else a.toNat

/-- A number, and what comes of it. -/
inductive Kept (a : Int) (k : Nat) : Prop
  | neg : a < 0 → -(a + 1) = (k : Int) → -9223372036854775808 ≤ a → Kept a k
  | pos : a = (k : Int) → a ≤ 9223372036854775807 → Kept a k

theorem kept (a : Int) (h : -9223372036854775808 ≤ a ∧ a ≤ 9223372036854775807) : Kept a (keepN a) := by
  unfold keepN
  by_cases hn : a < 0
  · rw [if_pos hn]; exact .neg hn (by omega) h.1
  · rw [if_neg hn]; exact .pos (by omega) h.2

theorem rem_is (k d : Nat) : (k : Int).tmod (d : Int) = ((k % d : Nat) : Int) ∧ (k : Int) % (d : Int) = ((k % d : Nat) : Int) := by
  constructor
  · rw [Int.tmod_eq_emod_of_nonneg (by omega)]; rfl
  · rfl

set_option maxRecDepth 100000 in
set_option maxHeartbeats 1000000 in
theorem core_no {a : Option Addr} {n c : Nat} {xs : NS} (x1 x2 x3 : Int) (p : ByteArray) (w : World) (h : NL w a n xs) (hR : ¬ Right xs) :
    Calls Try.prog 7 #[.slice a n c, .int .i64 x1, .int .i64 x2, .int .i64 x3, .string p] w fun e w' => e = .returned (.bool true) ∧ Below w.heap.size w w' := by
  have CR : Hid (∀ W, Below w.heap.size w W → Calls Try.prog 16 #[.slice a n c] W fun e w' => e = .returned (.bool false) ∧ Below W.heap.size W w') := fun W hb => right_val (h.below hb) false ⟨fun e => (by cases e), fun e => absurd e hR⟩
  clear h hR
  go_enter Try.func7, Try.ntmps7
  go_wp2_with fail
  refine (examples_val _).mono ?_
  rintro e w1 ⟨rfl, c1⟩
  have C1 : Hid (Below w.heap.size w w1) := c1
  clear c1
  go_wp2_with (go_at_call 16; refine (CR.out _ C1.out).mono ?_; rintro e w2 ⟨rfl, c2⟩; have C2 : Hid (Below w.heap.size w w2) := bel_tr C1.out c2; clear c2)
  go_ret
  exact ⟨rfl, C2.out⟩

/-- What is asked. -/
structure Ask (w : World) (b off n c : Nat) (ps : List NR) (kn on tn Q o t : Nat) : Prop where
  right : Right (ps.map (·.1))
  nds : Nds w (some ⟨b, off, none⟩) b off ps
  len : ps.length = n
  n60 : n ≤ 60
  qn : Q < n
  r1 : (kn : Int).tmod (n : Int) = (Q : Int)
  r2 : (kn : Int) % (n : Int) = (Q : Int)
  s1 : (on : Int).tmod 100 = (o : Int)
  s2 : (on : Int) % 100 = (o : Int)
  t1 : (tn : Int).tmod 100 = (t : Int)
  t2 : (tn : Int) % 100 = (t : Int)
  o100 : o < 100
  t100 : t < 100

set_option maxRecDepth 100000 in
set_option maxHeartbeats 4000000 in
theorem core_file {w : World} {b off n c : Nat} {ps : List NR} {kn on tn Q o t : Nat} (A : Ask w b off n c ps kn on tn Q o t) (x1 x2 x3 : Int) (h1 : Kept x1 kn) (h2 : Kept x2 on) (h3 : Kept x3 tn) (hd : ∀ h : Q < ps.length, ps[Q].1.dir = false) (p : ByteArray) :
    Calls Try.prog 7 #[.slice (some ⟨b, off, none⟩) n c, .int .i64 x1, .int .i64 x2, .int .i64 x3, .string p] w fun e w' => e = .returned (.bool true) ∧ Below w.heap.size w w' := by
  have hQp : Q < ps.length := by rw [A.len]; exact A.qn
  have hNL : NL w (some ⟨b, off, none⟩) n (ps.map (·.1)) := ⟨b, off, ps, rfl, by rw [List.length_map]; exact A.len, A.nds⟩
  have CR : Hid (∀ W, Below w.heap.size w W → Calls Try.prog 16 #[.slice (some ⟨b, off, none⟩) n c] W fun e w' => e = .returned (.bool true) ∧ Below W.heap.size W w') := fun W hb => right_val (hNL.below hb) true ⟨fun _ => A.right, fun _ => rfl⟩
  have HCE : Hid (∀ W, Below w.heap.size w W → W.cell? ⟨b, off + Q * 5 + 1, none⟩ = some (.bool false)) := fun W hb => by
    obtain ⟨_, e1, _⟩ := (A.nds.below hb).at hQp
    rw [e1, hd hQp]
  obtain ⟨_, _, _, hn60, hqn, r1, r2, s1, s2, t1, t2, o100, t100⟩ := A
  clear hNL hd hQp
  cases h1 <;> cases h2 <;> cases h3
  all_goals
    try subst_vars
    go_enter Try.func7, Try.ntmps7
    go_wp2_with fail
    refine (examples_val _).mono ?_
    rintro e w1 ⟨rfl, c1⟩
    have C1 : Hid (Below w.heap.size w w1) := c1
    clear c1
    go_wp2_with (go_at_call 16; refine (CR.out _ C1.out).mono ?_; rintro e w2 ⟨rfl, c2⟩; have C2 : Hid (Below w.heap.size w w2) := bel_tr C1.out c2; have y1 := HCE.out _ C2.out; clear c2)
    go_ret
    exact ⟨rfl, C2.out⟩

set_option maxRecDepth 100000 in
set_option maxHeartbeats 4000000 in
theorem core_dir {w : World} {b off n c : Nat} {ps : List NR} {kn on tn Q o t : Nat} (A : Ask w b off n c ps kn on tn Q o t) (x1 x2 x3 : Int) (h1 : Kept x1 kn) (h2 : Kept x2 on) (h3 : Kept x3 tn) (hd : ∀ h : Q < ps.length, ps[Q].1.dir = true) (p : ByteArray) (hp : p.size ≤ maxLen) :
    Calls Try.prog 7 #[.slice (some ⟨b, off, none⟩) n c, .int .i64 x1, .int .i64 x2, .int .i64 x3, .string p] w fun e w' => e = .returned (.bool true) ∧ Below w.heap.size w w' := by
  obtain ⟨ti, hi1, hi2, hi3, hi4⟩ := ndRow
  have hQp : Q < ps.length := by rw [A.len]; exact A.qn
  have hlx : (ps.map (·.1)).length = n := by rw [List.length_map]; exact A.len
  have hQx : Q < (ps.map (·.1)).length := by rw [hlx]; exact A.qn
  have hdx : ((ps.map (fun x : NR => x.1))[Q]'hQx).dir = true := by rw [List.getElem_map]; exact hd hQp
  have hNL : NL w (some ⟨b, off, none⟩) n (ps.map (·.1)) := ⟨b, off, ps, rfl, hlx, A.nds⟩
  have CR : Hid (∀ W, Below w.heap.size w W → Calls Try.prog 16 #[.slice (some ⟨b, off, none⟩) n c] W fun e w' => e = .returned (.bool true) ∧ Below W.heap.size W w') := fun W hb => right_val (hNL.below hb) true ⟨fun _ => A.right, fun _ => rfl⟩
  have HCE : Hid (∀ W, Below w.heap.size w W → W.cell? ⟨b, off + Q * 5 + 1, none⟩ = some (.bool true)) := fun W hb => by
    obtain ⟨_, e1, _⟩ := (A.nds.below hb).at hQp
    rw [e1, hd hQp]
  have HSRC : Hid (∀ W, Below w.heap.size w W → Src Try.prog 5 22 (.slice (some ⟨b, off, none⟩) n c) n (rowC ndC ps) W) := fun W hb => src_nds (A.nds.below hb) A.len
  have hra := withQ_right A.right hQx hdx (q := (o : Int)) (by omega) (by have := A.o100; omega)
  have hrb := withQ_right A.right hQx hdx (q := (o : Int) + (t : Int)) (by omega) (by have := A.o100; have := A.t100; omega)
  obtain ⟨Ra, hRa⟩ : ∃ R, roomI (withQ (ps.map (·.1)) Q (o : Int)) p = R := ⟨_, rfl⟩
  obtain ⟨Rb, hRb⟩ : ∃ R, roomI (withQ (ps.map (·.1)) Q ((o : Int) + (t : Int))) p = R := ⟨_, rfl⟩
  obtain ⟨F, hF⟩ : ∃ F, cntL (ps.map (·.1)) p = F := ⟨_, rfl⟩
  have hFa : cntL (withQ (ps.map (·.1)) Q (o : Int)) p = F := by rw [withQ_cnt hQx, hF]
  have hFb : cntL (withQ (ps.map (·.1)) Q ((o : Int) + (t : Int))) p = F := by rw [withQ_cnt hQx, hF]
  have hle : Ra ≤ Rb := by rw [← hRa, ← hRb]; exact less_room A.right hQx (by omega) (by omega) p
  obtain ⟨ma, hma⟩ : ∃ m, (overL (withQ (ps.map (·.1)) Q (o : Int))).length = m := ⟨_, rfl⟩
  obtain ⟨mb, hmb⟩ : ∃ m, (overL (withQ (ps.map (·.1)) Q ((o : Int) + (t : Int)))).length = m := ⟨_, rfl⟩
  have hmle : mb ≤ ma := by rw [← hma, ← hmb]; exact less_over hQx (by omega) (by omega)
  have hm60 : ma ≤ 60 := by
    have h1 : (overL (withQ (ps.map (·.1)) Q (o : Int))).length ≤ (withQ (ps.map (·.1)) Q (o : Int)).length := by unfold overL; rw [List.length_map]; exact List.length_filter_le _ _
    rw [hma, withQ_len hQx, hlx] at h1
    have := A.n60
    omega
  have HTWO : Hid (∀ W ga gb ca cb, Below w.heap.size w W → ga ≠ gb → Cel (fun k => w.heap.size ≤ k) W 5 (.slice (some ⟨ga, 0, none⟩) n ca) n (rowC ndC ps) (some ga) → Cel (fun k => w.heap.size ≤ k) W 5 (.slice (some ⟨gb, 0, none⟩) n cb) n (rowC ndC ps) (some gb) → Two w W ga gb n ca cb Q ps (o : Int) ((o : Int) + (t : Int))) := fun W ga gb ca cb hB hne ha hb => two_of A.nds.ok hB A.len hQp hne ha hb _ _
  have KRa : Hid (∀ W a c, NL W a n (withQ (ps.map (·.1)) Q (o : Int)) → Calls Try.prog 14 #[.slice a n c, .string p] W fun e w' => e = .returned (.int .i64 Ra) ∧ Below W.heap.size W w') := fun W a c h => room_val h true ⟨fun _ => hra, fun _ => rfl⟩ p hp Ra hRa
  have KRb : Hid (∀ W a c, NL W a n (withQ (ps.map (·.1)) Q ((o : Int) + (t : Int))) → Calls Try.prog 14 #[.slice a n c, .string p] W fun e w' => e = .returned (.int .i64 Rb) ∧ Below W.heap.size W w') := fun W a c h => room_val h true ⟨fun _ => hrb, fun _ => rfl⟩ p hp Rb hRb
  have KOa : Hid (∀ W a c, NL W a n (withQ (ps.map (·.1)) Q (o : Int)) → Calls Try.prog 10 #[.slice a n c] W fun e w' => TextsR W.heap.size (overL (withQ (ps.map (·.1)) Q (o : Int))) ma e w' ∧ Below W.heap.size W w') := fun W a c h => over_val h true ⟨fun _ => hra, fun _ => rfl⟩ _ rfl ma hma
  have KOb : Hid (∀ W a c, NL W a n (withQ (ps.map (·.1)) Q ((o : Int) + (t : Int))) → Calls Try.prog 10 #[.slice a n c] W fun e w' => TextsR W.heap.size (overL (withQ (ps.map (·.1)) Q ((o : Int) + (t : Int)))) mb e w' ∧ Below W.heap.size W w') := fun W a c h => over_val h true ⟨fun _ => hrb, fun _ => rfl⟩ _ rfl mb hmb
  have KCa : Hid (∀ W a c, NL W a n (withQ (ps.map (·.1)) Q (o : Int)) → Calls Try.prog 12 #[.slice a n c, .string p] W fun e w' => e = .returned (.int .i64 (F : Int)) ∧ Below W.heap.size W w') := fun W a c h => count_val h true ⟨fun _ => hra, fun _ => rfl⟩ p hp F hFa
  have KCb : Hid (∀ W a c, NL W a n (withQ (ps.map (·.1)) Q ((o : Int) + (t : Int))) → Calls Try.prog 12 #[.slice a n c, .string p] W fun e w' => e = .returned (.int .i64 (F : Int)) ∧ Below W.heap.size W w') := fun W a c h => count_val h true ⟨fun _ => hrb, fun _ => rfl⟩ p hp F hFb
  have HLIV : Hid (∀ W g cap, Cel (fun k => w.heap.size ≤ k) W 5 (.slice (some ⟨g, 0, none⟩) n cap) n (rowC ndC ps) (some g) → (∃ q : Int, W.cell? ⟨g, Q * 5 + 2, none⟩ = some (.int .i64 q)) ∧ W.frozen? ⟨g, Q * 5 + 2, none⟩ = false) := fun W g cap h => by
    obtain ⟨b', e1, _, e3⟩ := h.elem wideX hQp A.len
    cases e1
    refine ⟨⟨_, e3 2 _ rfl⟩, (h.live _ ?_).2⟩
    have := h.cap2.1
    have := A.qn
    omega
  obtain ⟨_, _, hpl, hn60, hqn, r1, r2, s1, s2, t1, t2, o100, t100⟩ := A
  have d1 : decide (Ra ≤ Rb) = true := decide_eq_true hle
  have d2 : decide ((mb : Int) ≤ (ma : Int)) = true := decide_eq_true (by omega)
  clear hNL hd hQx hdx hra hrb hRa hRb hF hFa hFb hma hmb hp hlx hpl hQp
  cases h1 <;> cases h2 <;> cases h3
  all_goals
    try subst_vars
    have M1 : Hid True := trivial
    have M2 : Hid True := trivial
    have M3 : Hid True := trivial
    have M4 : Hid True := trivial
    go_enter Try.func7, Try.ntmps7
    go_wp2_with fail
    refine (examples_val _).mono ?_
    rintro e w1 ⟨rfl, c1⟩
    have C1 : Hid (Below w.heap.size w w1) := c1
    clear c1
    go_wp2_with (first
      | (go_at_call 16; refine (CR.out _ C1.out).mono ?_; rintro e w2 ⟨rfl, c2⟩; have C2 : Hid (Below w.heap.size w w2) := bel_tr C1.out c2; have y1 := HCE.out _ C2.out; clear c2)
      | (at_builtin; have m1 := M1.out; go_loud (refine append_celN _ rfl _ _ 22 22 rfl 35 ti _ 5 64 Try.underlying22 hi1 hi2 hi3 hi4 rfl (O := fun k => w.heap.size ≤ k) _ 0 _ none rfl (.nil rfl rfl rfl) _ n (rowC ndC ps) rfl (HSRC.out _ C2.out) (by unfold maxLen; omega) (by omega) n (by omega) (rowC ndC ps) rfl ?_); intro a4 c4 w4 g4 hC4 hS4 hf4; clear m1 M1; obtain ⟨ga, rfl, rfl⟩ := hC4.at2 (by omega); have HCa : Hid (Cel (fun k => w.heap.size ≤ k) w4 5 (.slice (some ⟨ga, 0, none⟩) n c4) n (rowC ndC ps) (some ga)) := grow_base C2.out.size (fun k hk => hk) hC4; have C4 : Hid (Below w.heap.size w w4) := bel_tr C2.out (below_none hS4); clear hC4 hS4 hf4)
      | (at_builtin; go_loud (refine append_celN _ rfl _ _ 22 22 rfl 35 ti _ 5 64 Try.underlying22 hi1 hi2 hi3 hi4 rfl (O := fun k => w.heap.size ≤ k) _ 0 _ none rfl (.nil rfl rfl rfl) _ n (rowC ndC ps) rfl (HSRC.out _ C4.out) (by unfold maxLen; omega) (by omega) n (by omega) (rowC ndC ps) rfl ?_); intro a5 c5 w5 g5 hC5 hS5 hf5; obtain ⟨gb, rfl, rfl⟩ := hC5.at2 (by omega); have HCb : Hid (Cel (fun k => w.heap.size ≤ k) w5 5 (.slice (some ⟨gb, 0, none⟩) n c5) n (rowC ndC ps) (some gb)) := grow_base C4.out.size (fun k hk => hk) hC5; have C5 : Hid (Below w.heap.size w w5) := bel_tr C4.out (below_none hS5); have HNE : Hid (ga ≠ gb) := ne_new HCa.out (hf5 gb rfl); have HCa5 : Hid _ := HCa.out.below (below_none hS5); have HT : Hid _ := HTWO.out w5 ga gb c4 c5 C5.out HNE.out HCa5.out HCb.out; obtain ⟨⟨qa, ya⟩, fra⟩ := HLIV.out w5 ga c4 HCa5.out; obtain ⟨⟨qb, yb⟩, frb⟩ := HLIV.out w5 gb c5 HCb.out; have yb2 := set_other HNE.out yb; clear hC5 hS5 hf5)
      | (go_at_call 14; have m2 := M2.out; refine (KRa.out _ _ _ (HT.out.nla)).mono ?_; rintro e w6 ⟨rfl, c6⟩; have B6 : Hid _ := c6; clear c6 m2 M2)
      | (go_at_call 14; refine (KRb.out _ _ _ (HT.out.nlb.below B6.out)).mono ?_; rintro e w7 ⟨rfl, c7⟩; have B7 : Hid _ := bel_tr B6.out c7; clear c7)
      | (go_at_call 10; have m3 := M3.out; refine (KOa.out _ _ _ (HT.out.nla.below B7.out)).mono ?_; rintro e w8 ⟨⟨oa, oc, og, rfl, hO⟩, c8⟩; have B8 : Hid _ := bel_tr B7.out c8; clear c8 hO m3 M3)
      | (go_at_call 10; refine (KOb.out _ _ _ (HT.out.nlb.below B8.out)).mono ?_; rintro e w9 ⟨⟨oa2, oc2, og2, rfl, hO⟩, c9⟩; have B9 : Hid _ := bel_tr B8.out c9; clear c9 hO)
      | (go_at_call 12; have m4 := M4.out; refine (KCa.out _ _ _ (HT.out.nla.below B9.out)).mono ?_; rintro e w10 ⟨rfl, c10⟩; have B10 : Hid _ := bel_tr B9.out c10; clear c10 m4 M4)
      | (go_at_call 12; refine (KCb.out _ _ _ (HT.out.nlb.below B10.out)).mono ?_; rintro e w11 ⟨rfl, c11⟩; have B11 : Hid _ := bel_tr B10.out c11; clear c11))
    go_ret
    exact ⟨rfl, bel_tr HT.out.bel B11.out⟩

theorem walk (a0 : Option Addr) (b0 off0 cap0 : Nat) (ss0 : List NR) (a1 a2 a3 : Int) (a4 : ByteArray) (W : World) (h0 : Nds W a0 b0 off0 ss0) (h1 : (Lit.int .i64 a1).wf = true) (h2 : (Lit.int .i64 a2).wf = true) (h3 : (Lit.int .i64 a3).wf = true) (h4 : a4.size ≤ maxLen) :
    Calls Try.prog 7 #[.slice a0 (ss0.map (·.1)).length cap0, .int .i64 a1, .int .i64 a2, .int .i64 a3, .string a4] W fun e w' => e = .returned (.bool true) ∧ Below W.heap.size W w' := by
  have b1 := bounds_i64 h1
  have b2 := bounds_i64 h2
  have b3 := bounds_i64 h3
  by_cases hR : Right (ss0.map (·.1))
  · obtain ⟨n, hn⟩ : ∃ n, (ss0.map (·.1)).length = n := ⟨_, rfl⟩
    have hpl : ss0.length = n := by rw [← hn, List.length_map]
    have hn0 : 0 < n := by rw [← hn]; exact hR.pos
    have hn60 : n ≤ 60 := by rw [← hn]; exact hR.few
    rw [hn]
    obtain rfl := h0.addr (by omega)
    have A : Ask W b0 off0 n cap0 ss0 (keepN a1) (keepN a2) (keepN a3) (keepN a1 % n) (keepN a2 % 100) (keepN a3 % 100) :=
      ⟨hR, h0, hpl, hn60, Nat.mod_lt _ hn0, (rem_is _ _).1, (rem_is _ _).2, (rem_is _ 100).1, (rem_is _ 100).2, (rem_is _ 100).1, (rem_is _ 100).2, Nat.mod_lt _ (by omega), Nat.mod_lt _ (by omega)⟩
    have hQ : keepN a1 % n < ss0.length := by rw [hpl]; exact A.qn
    cases hd : ss0[keepN a1 % n].1.dir with
    | false => exact core_file A a1 a2 a3 (kept a1 (by omega)) (kept a2 (by omega)) (kept a3 (by omega)) (fun _ => hd) a4
    | true => exact core_dir A a1 a2 a3 (kept a1 (by omega)) (kept a2 (by omega)) (kept a3 (by omega)) (fun _ => hd) a4 h4
  · exact core_no a1 a2 a3 a4 W ⟨b0, off0, ss0, rfl, rfl, h0⟩ hR

set_option maxRecDepth 100000 in
theorem lifted (os : Os) (started : os.Started) (H : Type) (enc : TypeId × Value → H) :
    ReturnsInHanded {} Try.checked os 7 .any (Rows.quotaLessSpec.pre6 enc Try.prog Try.f7 Rows.quotaLessRow.domain false) (Rows.quotaLessSpec.post enc Try.prog Try.f7 false true false false) := by
  refine returnsInHanded_of_change (C := Try.checked) own started (by kernel_rfl) Try.func7
    (ChangeSpec.witness6 (enc := enc) (C := Try.checked) false ⟨#[], #[.slice none 0 0, .int .i64 0, .int .i64 0, .int .i64 0, .string ByteArray.empty], []⟩ 8 (by kernel_rfl) (by kernel_rfl) (by kernel_rfl) (by kernel_rfl)) ?_
  intro W base args ds gs before hval0 hW hcnd _
  have hval : ∀ (j : Nat) t v, Try.f7.params[j]? = some t → args[j]? = some v → Value.okWide Try.prog W .any base t v := hval0
  have hW' := hW
  obtain ⟨p, q, hA0, hV, rfl, hfz, hnd⟩ := hW
  have hA : DataW.TrodAll enc Try.prog W 0 (fun _ => true) true Try.f7.params.toList args.toList ds p := hA0
  rw [Try.params7] at hA hval
  obtain ⟨v0, vs0, d0, ds0, p0, q0, hargs, rfl, rfl, h0, r0⟩ := trodAll_cons hA
  obtain ⟨v1, vs1, d1, ds1, p1, q1, rfl, rfl, rfl, h1, r1⟩ := trodAll_cons r0
  obtain ⟨v2, vs2, d2, ds2, p2, q2, rfl, rfl, rfl, h2, r2⟩ := trodAll_cons r1
  obtain ⟨v3, vs3, d3, ds3, p3, q3, rfl, rfl, rfl, h3, r3⟩ := trodAll_cons r2
  obtain ⟨v4, vs4, d4, ds4, p4, q4, rfl, rfl, rfl, h4, r4⟩ := trodAll_cons r3
  obtain ⟨rfl, rfl, rfl⟩ := trodAll_nil r4
  obtain rfl : args = #[v0, v1, v2, v3, v4] := by cases args; simp_all
  obtain ⟨rfl, rfl⟩ := trodVars_none hV
  obtain ⟨a0, len0, cap0, rfl⟩ := okWide_slice Try.underlying22 (hval 0 22 v0 rfl rfl)
  have k0 := h0
  have lt0 : ∀ x ∈ p0, x.block < W.heap.size := by obtain ⟨m, hm⟩ := k0; exact DataW.trod_lt m _ _ _ hm
  obtain ⟨b0, off0, ss0, rfl, w0, n0⟩ := open_nodes h0
  obtain ⟨a1, rfl, rfl, rfl, w1⟩ := open_int Try.underlying3 (hval 1 3 v1 rfl rfl) h1
  obtain ⟨a2, rfl, rfl, rfl, w2⟩ := open_int Try.underlying3 (hval 2 3 v2 rfl rfl) h2
  obtain ⟨a3, rfl, rfl, rfl, w3⟩ := open_int Try.underlying3 (hval 3 3 v3 rfl rfl) h3
  obtain ⟨a4, rfl, rfl, rfl, w4⟩ := open_string Try.underlying9 (hval 4 9 v4 rfl rfl) h4
  clear hA0 hval0
  refine (walk a0 b0 off0 cap0 ss0 a1 a2 a3 a4 W w0 w1 w2 w3 w4).mono fun e W' ⟨he, bel⟩ => ?_
  subst he
  exact ⟨_, rfl, _, _, _, [], _, [], hW', trodAll_mk1 (shut_bool Try.underlying4 _), (trodAll_cons_mk (Below.trod laidOut (by kernel_rfl) (of_decide_eq_true (by kernel_rfl)) k0 bel lt0) (trodAll_cons_mk (shut_int Try.underlying3 w1) (trodAll_cons_mk (shut_int Try.underlying3 w2) (trodAll_cons_mk (shut_int Try.underlying3 w3) (trodAll_cons_mk (shut_string Try.underlying9 w4) trodAll_mk0))))), rfl, bel.frame _, fun h => by cases h⟩

theorem over : Rows.quotaLessRow.holds Try.pinned (OpenSpec.ofChange Rows.quotaLessSpec) :=
  OpenClaim.holds_of_wide 7 Try.f7 rfl rfl rfl rfl rfl rfl rfl ⟨rfl, rfl, rfl, rfl, rfl⟩ rfl rfl rfl rfl rfl (by kernel_rfl) Try.func7 (by kernel_rfl)
    (of_decide_eq_true (by kernel_rfl)) (by unfold Func.isWrapper; first | (rw [if_pos (by decide +kernel)]; kernel_rfl) | (rw [if_neg (by decide +kernel)]; exact ⟨rfl, rfl⟩))
    (fun os started H enc _ => lifted os started H enc)
end Go.Proofs.Ytlfehfajaelmlaa.quotaLess

namespace Go.Proofs.Ytlfehfajaelmlaa
/-- The statement. -/
theorem quotaLess_holds : Rows.QuotaLessSaid := quotaLess.over
#print axioms quotaLess_holds
end Go.Proofs.Ytlfehfajaelmlaa
