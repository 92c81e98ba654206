/- LogReads: for every two texts: the statement's function returns true; nothing that was there is changed. No condition. -/
import Derived.Test.YtokldcifhjkmnaaB25
import Derived.Test.YtokldcifhjkmnaaB18
import Derived.Test.YtokldcifhjkmnaaB26
namespace Go.Proofs.Ytokldcifhjkmnaa.logReads
open Go.ChangeShapes Go.WideShapes Go.ChangeAt Go.RowKit Go.Proofs.Ytokldcifhjkmnaa Go.Proofs.Ytokldcifhjkmnaa.Lgg
open Go.ChangeMaps (open_string shut_string)
set_option linter.unusedVariables false

theorem own : ownKnob Try.prog.godebug = none := by kernel_rfl

def ds0 : DS := ⟨200000, 0, false, []⟩
theorem fit0 : Fit ds0 := ⟨List.Pairwise.nil, (fun p hp => by cases hp), (fun p hp => by cases hp), by show 0 ≤ 20; omega, by show (0 : Int) ≤ 200000 ∧ (200000 : Int) < _; omega, by show (0 : Int) ≤ 0 ∧ (0 : Int) < _; omega⟩
/-- What is there behind Append. -/
theorem app_out (n b : ByteArray) (hb : b.size ≤ 100000) : ∃ q ds1, begE ds0 (refA ds0 n.data.toList b.data.toList) = q ∧ doD ds0 (refA ds0 n.data.toList b.data.toList) (fapp n.data.toList b.data.toList) = ds1 ∧ Fit ds1 ∧ (rdT ds1 n.data.toList).size ≤ 100000 := by
  have hl2 : b.data.toList.length = b.size := Wir.size_list b
  by_cases h : nameOk n.data.toList = true
  · have hn := nameOk_iff h
    have e : refA ds0 n.data.toList b.data.toList = 0 := refA_ok h (by show 0 + _ ≤ _; omega) (.inr (by simp)) (by rw [hl2]; show ((0 + b.size : Nat) : Int) ≤ 200000; omega)
    obtain ⟨k1, k2⟩ := Lgg.beg_ok 200000 0 [] (fapp n.data.toList b.data.toList) (.inl rfl)
    refine ⟨0, ⟨200000, 0, false, [(n.data.toList, b.data.toList, 0)]⟩, by rw [e]; exact k1, by rw [e]; exact k2, ⟨List.pairwise_singleton _ _, fun p hp => ?_, fun p hp => ?_, by show 1 ≤ 20; omega, by show (0 : Int) ≤ 200000 ∧ (200000 : Int) < _; omega, by show (0 : Int) ≤ 0 ∧ (0 : Int) < _; omega⟩, ?_⟩
    · rw [List.mem_singleton.1 hp]; exact hn
    · rw [List.mem_singleton.1 hp]; exact ⟨by show b.data.toList.length ≤ 400000; omega, Nat.zero_le _⟩
    · obtain ⟨_, r2⟩ := rd_head (room := 200000) (f := 0) (n := n.data.toList) (A := b.data.toList) (a := 0) (r := [])
      rw [r2, mk_list]; exact hb
  · have e : refA ds0 n.data.toList b.data.toList = 1 := by unfold refA; rw [if_neg h]
    obtain ⟨k1, k2⟩ := Lgg.beg_no 200000 0 [] (fapp n.data.toList b.data.toList) (e := 1) (by omega)
    refine ⟨1, ds0, by rw [e]; exact k1, by rw [e]; exact k2, fit0, ?_⟩
    rw [rdT_eq _ rfl]
    show (0 : Nat) ≤ 100000
    omega

set_option maxRecDepth 100000 in
set_option maxHeartbeats 8000000 in
theorem core (b n : ByteArray) (hbm : b.size ≤ maxLen) (hnm : n.size ≤ maxLen) (w : World) :
    Calls Try.prog 4 #[.string b, .string n] w fun e w' => e = .returned (.bool true) ∧ Below w.heap.size w w' := by
  have hb2 := hbm
  unfold maxLen at hb2
  by_cases hbig : 100000 < b.size
  · clear hbm hnm
    go_enter Try.func4, Try.ntmps4
    go_wp2_with fail
    refine (examples14_val w).mono ?_
    rintro e w1 ⟨rfl, b1⟩
    go_wp2
    go_ret
    exact ⟨rfl, b1⟩
  · obtain ⟨q, ds1, hq, hds, hfit, hrd⟩ := app_out n b (by omega)
    obtain ⟨bb, hbb⟩ : ∃ t, rdT ds1 n.data.toList = t := ⟨_, rfl⟩
    obtain ⟨q1, hq1⟩ : ∃ t, rdE ds1 n.data.toList = t := ⟨_, rfl⟩
    obtain ⟨l, wh, er, hl⟩ : ∃ l wh er, loadS bb q1 = (l, wh, er) := ⟨_, _, _, rfl⟩
    have hbbm : bb.size ≤ maxLen := by rw [← hbb]; unfold maxLen; omega
    have hln : n.data.toList.length = n.size := Wir.size_list n
    have hlb : b.data.toList.length = b.size := Wir.size_list b
    have CN : Hid (∀ W, Below w.heap.size w W → Calls Try.prog 13 #[.int .i64 200000] W fun e w' => ∃ pd, e = .returned (.pointer (some ⟨pd, 0, none⟩)) ∧ Dk w (fun k => w.heap.size ≤ k ∧ k < W.heap.size) w' pd ds0 ∧ Below W.heap.size W w') := fun W hb => dk_new hb 200000 200000 (by omega) (by omega)
    have CX : Hid (∀ W, Calls Try.prog 14 #[.int .i64 200000] W fun e w' => ∃ p, e = .returned (.pointer (some ⟨p, 0, none⟩)) ∧ RAt (fun k => W.heap.size ≤ k ∧ k < w'.heap.size) w' p none 0 none ds0 ∧ Below W.heap.size W w') := fun W => refNew_val 200000 200000 W (by omega) (by omega)
    have CA : Hid (∀ K W pd, Dk w K W pd ds0 → Calls Try.prog 15 #[.pointer (some ⟨pd, 0, none⟩), .string n, .string b] W fun e w' => e = .returned (.int .i64 q) ∧ Dk w K w' pd ds1 ∧ Stay (fun k => ¬ K k) W w') := fun K W pd h => dk_append h n b hnm (by omega) q hq hds
    have CB : Hid (∀ O W px, RAt O W px none 0 none ds0 → Calls Try.prog 16 #[.pointer (some ⟨px, 0, none⟩), .string n, .string b] W fun e w' => e = .returned (.int .i64 q) ∧ (∃ a' c' g', RAt (Grow O W w') w' px a' c' g' ds1) ∧ Stay O W w') := fun O W px h => refAppend_val h fit0 n.data.toList b.data.toList (by rw [hln]; exact hnm) (by omega) q hq hds
    have CL : Hid (∀ K W pd, Dk w K W pd ds1 → Calls Try.prog 17 #[.pointer (some ⟨pd, 0, none⟩), .string n] W fun e w' => LdR W.heap.size l wh er e w' ∧ Below W.heap.size W w') := fun K W pd h => load_any h n hnm bb hbbm hbb q1 hq1 l wh er hl
    have CM : Hid (∀ O W px a c g, RAt O W px a c g ds1 → Calls Try.prog 18 #[.pointer (some ⟨px, 0, none⟩), .string n] W fun e w' => LdR W.heap.size l wh er e w' ∧ Below W.heap.size W w') := fun O W px a c g h => refLoad_any h hfit n bb hbbm hbb q1 hq1 l wh er hl
    clear hbm hnm hq hds hfit hrd hbb hq1 hl hbbm hln hlb
    generalize ds0 = D0 at *
    have hst2 : ∀ (w : World) (a : Addr) (x : Option Addr) (n c : Nat) (m : Mode), (store a (.slice x n c) m).run Try.prog w = stored Try.prog w a (.slice x n c) m := fun w a x n c m => run_store (P := Try.prog) w a _ m rfl
    go_enter Try.func4, Try.ntmps4
    go_wp2_with fail
    refine (examples14_val w).mono ?_
    rintro e w1 ⟨rfl, b1⟩
    have B1 : Hid (Below w.heap.size w w1) := b1
    clear b1
    go_wp2_with fail
    refine (CN.out _ B1.out).mono ?_
    rintro e w2 ⟨pd, rfl, h2, b2⟩
    have H2 : Hid (Dk w (fun _ => False) w2 pd D0) := h2.less (fun _ e => e.elim)
    clear h2 b2 B1 CN
    go_wp2_with fail
    refine (CX.out _).mono ?_
    rintro e w3 ⟨px, rfl, h3, b3⟩
    have H3 : Hid (Dk w (fun k => w2.heap.size ≤ k ∧ k < w3.heap.size) w3 pd D0 ∧ RAt (fun k => w2.heap.size ≤ k ∧ k < w3.heap.size) w3 px none 0 none D0 ∧ w.heap.size ≤ w2.heap.size) := ⟨H2.out.add b3 (fun k hk => .inr hk), h3, H2.out.bel.size⟩
    clear h3 b3 H2 CX
    go_wp2_with fail
    refine (CA.out _ _ _ H3.out.1).mono ?_
    rintro e w4 ⟨rfl, h4, s4⟩
    have H4 : Hid (Dk w (fun k => w2.heap.size ≤ k ∧ k < w3.heap.size) w4 pd ds1 ∧ RAt (fun k => w2.heap.size ≤ k ∧ k < w3.heap.size) w4 px none 0 none D0 ∧ w.heap.size ≤ w2.heap.size) := ⟨h4, H3.out.2.1.stay s4 (fun k hk e => e hk), H3.out.2.2⟩
    clear h4 s4 H3 CA
    go_wp2_with fail
    refine (CB.out _ _ _ H4.out.2.1).mono ?_
    rintro e w5 ⟨rfl, ⟨xa, xc, xg, h5⟩, s5⟩
    have H5 : Hid (Dk w (fun k => w2.heap.size ≤ k ∧ k < w3.heap.size) w5 pd ds1 ∧ RAt (Grow (fun k => w2.heap.size ≤ k ∧ k < w3.heap.size) w4 w5) w5 px xa xc xg ds1) := ⟨H4.out.1.wrote s5 (fun k hk => Nat.le_trans H4.out.2.2 hk.1), h5⟩
    clear h5 s5 H4 CB
    go_wp2_with fail
    refine (CL.out _ _ _ H5.out.1).mono ?_
    rintro e w6 ⟨⟨a, c, rfl, hL⟩, b6⟩
    have H6 : Hid ((w6.alloc (.cells #[.int .i64 l.ep, .slice a l.es.length c] 24)).cell? ⟨w6.heap.size, 0, none⟩ = some (.int .i64 l.ep) ∧ (w6.alloc (.cells #[.int .i64 l.ep, .slice a l.es.length c] 24)).cell? ⟨w6.heap.size, 1, none⟩ = some (.slice a l.es.length c) ∧ Lie enC (fun k => w5.heap.size ≤ k) (w6.alloc (.cells #[.int .i64 l.ep, .slice a l.es.length c] 24)) a l.es ∧ RAt (Grow (fun k => w2.heap.size ≤ k ∧ k < w3.heap.size) w4 w5) (w6.alloc (.cells #[.int .i64 l.ep, .slice a l.es.length c] 24)) px xa xc xg ds1 ∧ Below w.heap.size w (w6.alloc (.cells #[.int .i64 l.ep, .slice a l.es.length c] 24))) := by
      have bb9 := bel_tr b6 (bel_al w6 (.cells #[.int .i64 l.ep, .slice a l.es.length c] 24))
      obtain ⟨k1, k2, _, _⟩ := cells2 w6 (.int .i64 l.ep) (.slice a l.es.length c) 24
      exact ⟨k1, k2, hL.below (bel_al _ _), H5.out.2.below bb9, bel_tr H5.out.1.bel bb9⟩
    clear hL b6 H5 CL
    go_wp2_with fail
    generalize w6.alloc (.cells #[.int .i64 l.ep, .slice a l.es.length c] 24) = W6 at *
    generalize w6.heap.size = AB at *
    refine (CM.out _ _ _ _ _ _ H6.out.2.2.2.1).mono ?_
    rintro e w7 ⟨⟨a', c', rfl, hL⟩, b7⟩
    have H7 : Hid ((w7.alloc (.cells #[.int .i64 l.ep, .slice a' l.es.length c'] 24)).cell? ⟨AB, 0, none⟩ = some (.int .i64 l.ep) ∧ (w7.alloc (.cells #[.int .i64 l.ep, .slice a' l.es.length c'] 24)).cell? ⟨AB, 1, none⟩ = some (.slice a l.es.length c) ∧ Lie enC (fun k => w5.heap.size ≤ k) (w7.alloc (.cells #[.int .i64 l.ep, .slice a' l.es.length c'] 24)) a l.es ∧ Lie enC (fun k => W6.heap.size ≤ k) (w7.alloc (.cells #[.int .i64 l.ep, .slice a' l.es.length c'] 24)) a' l.es ∧ (w7.alloc (.cells #[.int .i64 l.ep, .slice a' l.es.length c'] 24)).cell? ⟨w7.heap.size, 0, none⟩ = some (.int .i64 l.ep) ∧ (w7.alloc (.cells #[.int .i64 l.ep, .slice a' l.es.length c'] 24)).cell? ⟨w7.heap.size, 1, none⟩ = some (.slice a' l.es.length c') ∧ Below w.heap.size w (w7.alloc (.cells #[.int .i64 l.ep, .slice a' l.es.length c'] 24))) := by
      have bb9 := bel_tr b7 (bel_al w7 (.cells #[.int .i64 l.ep, .slice a' l.es.length c'] 24))
      obtain ⟨k1, k2, _, _⟩ := cells2 w7 (.int .i64 l.ep) (.slice a' l.es.length c') 24
      exact ⟨bel_cell bb9 H6.out.1, bel_cell bb9 H6.out.2.1, H6.out.2.2.1.below bb9, hL.below (bel_al _ _), k1, k2, bel_tr H6.out.2.2.2.2 bb9⟩
    clear hL b7 H6 CM
    go_upto_region 12 with fail
    generalize w7.alloc (.cells #[.int .i64 l.ep, .slice a' l.es.length c'] 24) = W7 at *
    generalize w7.heap.size = MB at *
    obtain ⟨x0, x1, hl1, hl2, y0, y1, hB7⟩ := H7.out
    have HL1 : Hid (Lie enC (fun k => w5.heap.size ≤ k) W7 a l.es) := hl1
    have HL2 : Hid (Lie enC (fun k => W6.heap.size ≤ k) W7 a' l.es) := hl2
    have HB7 : Hid (Below w.heap.size w W7) := hB7
    clear hl1 hl2 hB7 H7
    go_wp2_with fail
    refine (same_val HL1.out HL2.out _ _ _ _ rfl rfl _ _ true ⟨fun _ => rfl, fun _ => rfl⟩).mono ?_
    rintro e w8 ⟨rfl, b8⟩
    have B8 : Hid (Below w.heap.size w w8) := bel_tr HB7.out b8
    clear x0 x1 y0 y1 b8 HL1 HL2 HB7
    have hwb : (wh == wh) = true := by cases wh <;> rfl
    go_wp2
    go_ret
    exact ⟨by first | rfl | simp, B8.out⟩

theorem walk (a0 a1 : ByteArray) (w0 : a0.size ≤ maxLen) (w1 : a1.size ≤ maxLen) (w : World) :
    Calls Try.prog 4 #[.string a0, .string a1] w fun e w' => e = .returned (.bool true) ∧ Below w.heap.size w w' := core a0 a1 w0 w1 w

set_option maxRecDepth 100000 in
theorem lifted (os : Os) (started : os.Started) (H : Type) (enc : TypeId × Value → H) :
    ReturnsInHanded {} Try.checked os 4 .any (Rows.logReadsSpec.pre6 enc Try.prog Try.f4 Rows.logReadsRow.domain false) (Rows.logReadsSpec.post enc Try.prog Try.f4 false true false false) := by
  refine returnsInHanded_of_change (C := Try.checked) own started (by kernel_rfl) Try.func4
    (ChangeSpec.witness6 (enc := enc) (C := Try.checked) false ⟨#[], #[.string ByteArray.empty, .string ByteArray.empty], []⟩ 8 (by kernel_rfl) (by kernel_rfl) (by kernel_rfl) (by kernel_rfl)) ?_
  intro W base args ds gs before hval0 hW hcnd _
  have hval : ∀ (j : Nat) t v, Try.f4.params[j]? = some t → args[j]? = some v → Value.okWide Try.prog W .any base t v := hval0
  have hW' := hW
  obtain ⟨p, q, hA0, hV, rfl, hfz, hnd⟩ := hW
  have hA : DataW.TrodAll enc Try.prog W 0 (fun _ => true) true Try.f4.params.toList args.toList ds p := hA0
  rw [Try.params4] at hA hval
  obtain ⟨v0, vs0, d0, ds0, p0, q0, hargs, rfl, rfl, h0, r0⟩ := trodAll_cons hA
  obtain ⟨v1, vs1, d1, ds1, p1, q1, rfl, rfl, rfl, h1, r1⟩ := trodAll_cons r0
  obtain ⟨rfl, rfl, rfl⟩ := trodAll_nil r1
  obtain rfl : args = #[v0, v1] := by cases args; simp_all
  obtain ⟨rfl, rfl⟩ := trodVars_none hV
  obtain ⟨a0, rfl, rfl, rfl, w0⟩ := open_string Try.underlying9 (hval 0 9 v0 rfl rfl) h0
  obtain ⟨a1, rfl, rfl, rfl, w1⟩ := open_string Try.underlying9 (hval 1 9 v1 rfl rfl) h1
  clear hA0 hval0
  refine (walk a0 a1 w0 w1 W).mono fun e W' ⟨he, bel⟩ => ?_
  subst he
  exact ⟨_, rfl, _, _, _, [], _, [], hW', trodAll_mk1 (shut_bool Try.underlying4 _), (trodAll_cons_mk (shut_string Try.underlying9 w0) (trodAll_cons_mk (shut_string Try.underlying9 w1) trodAll_mk0)), rfl, bel.frame _, fun h => by cases h⟩

theorem over : Rows.logReadsRow.holds Try.pinned (OpenSpec.ofChange Rows.logReadsSpec) :=
  OpenClaim.holds_of_wide 4 Try.f4 rfl rfl rfl rfl rfl rfl rfl ⟨rfl, rfl, rfl, rfl, rfl⟩ rfl rfl rfl rfl rfl (by kernel_rfl) Try.func4 (by kernel_rfl)
    (of_decide_eq_true (by kernel_rfl)) (by unfold Func.isWrapper; first | (rw [if_pos (by decide +kernel)]; kernel_rfl) | (rw [if_neg (by decide +kernel)]; exact ⟨rfl, rfl⟩))
    (fun os started H enc _ => lifted os started H enc)
end Go.Proofs.Ytokldcifhjkmnaa.logReads

namespace Go.Proofs.Ytokldcifhjkmnaa
/-- The statement. -/
theorem logReads_holds : Rows.LogReadsSaid := logReads.over
#print axioms logReads_holds
end Go.Proofs.Ytokldcifhjkmnaa
