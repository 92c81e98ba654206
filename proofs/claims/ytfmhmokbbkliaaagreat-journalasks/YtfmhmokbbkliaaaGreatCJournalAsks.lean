/- JournalAsks: for every epoch, all entries, every entry, every answer: the statement's function returns true; nothing that was there is changed. No condition. -/
import Derived.Test.YtfmhmokbbkliaaaGreatB40
import Derived.Test.YtfmhmokbbkliaaaGreatB38
namespace Go.Proofs.YtfmhmokbbkliaaaGreat.journalAsks
open Go.ChangeShapes Go.WideShapes Go.ChangeAt Go.RowKit Go.Proofs.YtfmhmokbbkliaaaGreat Go.Proofs.YtfmhmokbbkliaaaGreat.Wir Go.Proofs.YtfmhmokbbkliaaaGreat.Lgg Go.Proofs.YtfmhmokbbkliaaaGreat.Sep Go.Proofs.YtfmhmokbbkliaaaGreat.Jrn
open Go.ChangeMaps (open_string shut_string)
set_option linter.unusedVariables false

theorem own : ownKnob Tryz.prog.godebug = none := by kernel_rfl

set_option maxRecDepth 100000 in
set_option maxHeartbeats 8000000 in
theorem walk_b (ep : Int) (a1 : Option Addr) (cap1 n1 : Nat) (es : List En) (x : En) (s : ByteArray) (w : World) (hr : -9223372036854775808 ≤ ep ∧ ep ≤ 9223372036854775807) (hn : es.length = n1) (hL : LgIn w a1 es) (hx : x.d.size ≤ maxLen) (hs : s.size ≤ maxLen) :
    Calls Tryz.prog 3 #[.int .i64 ep, .slice a1 n1 cap1, .agg #[.int .i64 x.tx, .string x.d], .string s] w fun e w' => e = .returned (.bool true) ∧ Below w.heap.size w w' := by
  obtain ⟨A, q1, k1, hw1, hA1, hA2⟩ := acc_both hL ep n1 cap1 hn
  obtain ⟨D, q2, k2, hw2, hD1, hD2⟩ := add_both ep hr.1 hr.2 x hx
  obtain ⟨le, er, ls, m, hm, hT1, hT2⟩ := told_both s hs
  obtain ⟨J, hJ⟩ : ∃ J, joinT [pT, numT ep] = J := ⟨_, rfl⟩
  have CA1 : Hid _ := hA1
  have CA2 : Hid _ := hA2
  have CD1 : Hid _ := hD1
  have CD2 : Hid _ := hD2
  have CT1 : Hid _ := hT1
  have CT2 : Hid _ := hT2
  have HM : Hid (ls.length = m) := hm
  have CP1 : Hid (∀ W, Calls Tryz.prog 17 #[.int .i64 ep] W fun e w' => e = .returned (.string J) ∧ Below W.heap.size W w') := fun W => promise_val ep hr.1 hr.2 W J hJ
  have CP2 : Hid (∀ W, Calls Tryz.prog 18 #[.int .i64 ep] W fun e w' => e = .returned (.string J) ∧ Below W.heap.size W w') := fun W => refPromise_val ep hr.1 hr.2 W J hJ
  obtain ⟨tx, d⟩ := x
  simp only at CD1 CD2 ⊢
  have hEA : (A.toList == A.toList) = true := by simp
  have hED : (D.toList == D.toList) = true := by simp
  have hEJ : (J.toList == J.toList) = true := by simp
  have hst2 : ∀ (w : World) (a : Addr) (x : Option Addr) (n c : Nat) (m : Mode), (store a (.slice x n c) m).run Tryz.prog w = stored Tryz.prog w a (.slice x n c) m := fun w a x n c m => run_store (P := Tryz.prog) w a _ m rfl
  have HZ0 : Hid (Hz w (fun _ => False) [box w.heap.size [.int .i64 tx, .string d]] (w.alloc (.cells #[.int .i64 tx, .string d] 24))) := (hz_none w).box [.int .i64 tx, .string d] _
  clear hA1 hA2 hD1 hD2 hT1 hT2 hm hJ hx hs hL hn hr
  rcases hw1 with ⟨rfl, rfl⟩ | ⟨rfl, rfl⟩
  all_goals
    rcases hw2 with ⟨rfl, rfl⟩ | ⟨rfl, rfl⟩
    all_goals
      go_enter Tryz.func3, Tryz.ntmps3
      go_upto_region 1 with fail
      obtain ⟨R, hR⟩ : ∃ R, w.heap.size = R := ⟨_, rfl⟩
      have HZ1 : Hid (Hz w (fun _ => False) [box R [.int .i64 tx, .string d]] (w.alloc (.cells #[.int .i64 tx, .string d] 24))) := by rw [← hR]; exact HZ0.out
      clear HZ0
      try rw [hR]
      clear hR
      generalize w.alloc (.cells #[.int .i64 tx, .string d] 24) = W1 at *
      go_wp2_with fail
      refine (examples15_val _).mono ?_
      rintro e w2 ⟨rfl, b⟩
      have HZ2 : Hid (Hz w (fun _ => False) [box R [.int .i64 tx, .string d]] w2) := HZ1.out.below b
      clear b HZ1
      go_wp2_with fail
      refine (CA1.out _ (hz_bel HZ2.out)).mono ?_
      rintro e w3 ⟨rfl, b⟩
      have HZ3 : Hid (Hz w (fun _ => False) [box R [.int .i64 tx, .string d]] w3) := HZ2.out.below b
      clear b HZ2
      go_wp2_with fail
      refine (CA2.out _ (hz_bel HZ3.out)).mono ?_
      rintro e w4 ⟨rfl, b⟩
      have HZ4 : Hid (Hz w (fun _ => False) [box R [.int .i64 tx, .string d]] w4) := HZ3.out.below b
      clear b HZ3
      have x0 := HZ4.out.cell 0 rfl (j := 0) rfl
      have x1 := HZ4.out.cell 0 rfl (j := 1) rfl
      go_wp2_with fail
      refine (CD1.out _).mono ?_
      rintro e w5 ⟨rfl, b⟩
      have HZ5 : Hid (Hz w (fun _ => False) [box R [.int .i64 tx, .string d]] w5) := HZ4.out.below b
      clear b HZ4 x0 x1
      have x0 := HZ5.out.cell 0 rfl (j := 0) rfl
      have x1 := HZ5.out.cell 0 rfl (j := 1) rfl
      go_wp2_with fail
      refine (CD2.out _).mono ?_
      rintro e w6 ⟨rfl, b⟩
      have HZ6 : Hid (Hz w (fun _ => False) [box R [.int .i64 tx, .string d]] w6) := HZ5.out.below b
      clear b HZ5 x0 x1
      go_wp2_with fail
      refine (CT1.out _).mono ?_
      rintro e w7 ⟨⟨a, c, g, rfl, hC⟩, b⟩
      have HZ7 : Hid (Hz w (fun _ => False) [celT 2 (.slice a m c) m (rowC enC ls) g] w7) := (put_cel HZ6.out b hC).erase 1
      clear hC b HZ6
      go_upto_region 7 with fail
      have HZ8 : Hid (Hz w (fun _ => False) [box w7.heap.size [.int .i64 le, .slice a m c], celT 2 (.slice a m c) m (rowC enC ls) g] (w7.alloc (.cells #[.int .i64 le, .slice a m c] 34))) := HZ7.out.box [.int .i64 le, .slice a m c] _
      clear HZ7
      generalize w7.alloc (.cells #[.int .i64 le, .slice a m c] 34) = w8 at *
      generalize w7.heap.size = B1 at *
      go_wp2_with fail
      refine (CT2.out _).mono ?_
      rintro e w9 ⟨⟨a2, c2, g2, rfl, hC⟩, b⟩
      have HZ9 : Hid (Hz w (fun _ => False) [celT 2 (.slice a2 m c2) m (rowC enC ls) g2, box B1 [.int .i64 le, .slice a m c], celT 2 (.slice a m c) m (rowC enC ls) g] w9) := put_cel HZ8.out b hC
      clear hC b HZ8
      go_upto_region 8 with fail
      have HZA : Hid (Hz w (fun _ => False) [box w9.heap.size [.int .i64 le, .slice a2 m c2], celT 2 (.slice a2 m c2) m (rowC enC ls) g2, box B1 [.int .i64 le, .slice a m c], celT 2 (.slice a m c) m (rowC enC ls) g] (w9.alloc (.cells #[.int .i64 le, .slice a2 m c2] 34))) := HZ9.out.box [.int .i64 le, .slice a2 m c2] _
      clear HZ9
      generalize w9.alloc (.cells #[.int .i64 le, .slice a2 m c2] 34) = wA at *
      generalize w9.heap.size = B2 at *
      have y0 := HZA.out.cell 2 rfl (j := 0) rfl
      have y1 := HZA.out.cell 2 rfl (j := 1) rfl
      have z0 := HZA.out.cell 0 rfl (j := 0) rfl
      have z1 := HZA.out.cell 0 rfl (j := 1) rfl
      have CS : Hid (Calls Tryz.prog 16 #[.agg #[.int .i64 le, .slice a m c], .agg #[.int .i64 le, .slice a2 m c2]] wA fun e w' => e = .returned (.bool true) ∧ Below wA.heap.size wA w') := by
        obtain ⟨O1, l1⟩ := cel_lie HZA.out 3 rfl HM.out
        obtain ⟨O2, l2⟩ := cel_lie HZA.out 1 rfl HM.out
        exact refSame_val l1 l2 m m c c2 HM.out HM.out le le true ⟨fun _ => rfl, fun _ => rfl⟩
      go_wp2_with (first
        | (go_at_call 16; refine CS.out.mono ?_; rintro e wB ⟨rfl, b⟩; have BB : Hid (Below w.heap.size w wB) := hz_bel (HZA.out.below b); clear b y0 y1 z0 z1 CS HZA)
        | (go_at_call 17; refine (CP1.out _).mono ?_; rintro e wC ⟨rfl, b⟩; have BC : Hid (Below w.heap.size w wC) := bel_tr BB.out b; clear b)
        | (go_at_call 18; refine (CP2.out _).mono ?_; rintro e wD ⟨rfl, b⟩; have BD : Hid (Below w.heap.size w wD) := bel_tr BC.out b; clear b))
      go_ret
      exact ⟨rfl, BD.out⟩

theorem walk (a0 : Int) (a1 : Option Addr) (cap1 : Nat) (es : List En) (e2 : En) (a3 : ByteArray) (w : World) (w0 : (Lit.int .i64 a0).wf = true) (w1 : LgIn w a1 es) (w2 : e2.d.size ≤ maxLen ∧ -9223372036854775808 ≤ e2.tx ∧ e2.tx ≤ 9223372036854775807) (w3 : a3.size ≤ maxLen) :
    Calls Tryz.prog 3 #[.int .i64 a0, .slice a1 es.length cap1, .agg #[.int .i64 e2.tx, .string e2.d], .string a3] w fun e w' => e = .returned (.bool true) ∧ Below w.heap.size w w' :=
  walk_b a0 a1 cap1 _ es e2 a3 w (bounds_i64 w0) rfl w1 w2.1 w3

set_option maxRecDepth 100000 in
theorem lifted (os : Os) (started : os.Started) (H : Type) (enc : TypeId × Value → H) :
    ReturnsInHanded {} Tryz.checked os 3 .any (Rows.journalAsksSpec.pre6 enc Tryz.prog Tryz.f3 Rows.journalAsksRow.domain false) (Rows.journalAsksSpec.post enc Tryz.prog Tryz.f3 false true false false) := by
  refine returnsInHanded_of_change (C := Tryz.checked) own started (by kernel_rfl) Tryz.func3
    (ChangeSpec.witness6 (enc := enc) (C := Tryz.checked) false ⟨#[], #[.int .i64 0, .slice none 0 0, .agg #[.int .i64 0, .string ByteArray.empty], .string ByteArray.empty], []⟩ 8 (by kernel_rfl) (by kernel_rfl) (by kernel_rfl) (by kernel_rfl)) ?_
  intro W base args ds gs before hval0 hW hcnd _
  have hval : ∀ (j : Nat) t v, Tryz.f3.params[j]? = some t → args[j]? = some v → Value.okWide Tryz.prog W .any base t v := hval0
  have hW' := hW
  obtain ⟨p, q, hA0, hV, rfl, hfz, hnd⟩ := hW
  have hA : DataW.TrodAll enc Tryz.prog W 0 (fun _ => true) true Tryz.f3.params.toList args.toList ds p := hA0
  rw [Tryz.params3] at hA hval
  obtain ⟨v0, vs0, d0, ds0, p0, q0, hargs, rfl, rfl, h0, r0⟩ := trodAll_cons hA
  obtain ⟨v1, vs1, d1, ds1, p1, q1, rfl, rfl, rfl, h1, r1⟩ := trodAll_cons r0
  obtain ⟨v2, vs2, d2, ds2, p2, q2, rfl, rfl, rfl, h2, r2⟩ := trodAll_cons r1
  obtain ⟨v3, vs3, d3, ds3, p3, q3, rfl, rfl, rfl, h3, r3⟩ := trodAll_cons r2
  obtain ⟨rfl, rfl, rfl⟩ := trodAll_nil r3
  obtain rfl : args = #[v0, v1, v2, v3] := by cases args; simp_all
  obtain ⟨rfl, rfl⟩ := trodVars_none hV
  obtain ⟨a0, rfl, rfl, rfl, w0⟩ := open_int Tryz.underlying3 (hval 0 3 v0 rfl rfl) h0
  obtain ⟨a1, len1, cap1, rfl⟩ := okWide_slice Tryz.underlying22 (hval 1 22 v1 rfl rfl)
  have k1 := h1
  have lt1 : ∀ x ∈ p1, x.block < W.heap.size := by obtain ⟨m, hm⟩ := k1; exact DataW.trod_lt m _ _ _ hm
  obtain ⟨ss1, y1, w1⟩ := Jrn.open_ens h1
  subst y1
  have k2 := h2
  have lt2 : ∀ x ∈ p2, x.block < W.heap.size := by obtain ⟨m, hm⟩ := k2; exact DataW.trod_lt m _ _ _ hm
  obtain ⟨e2, rfl, w2⟩ := Jrn.open_entry (hval 2 24 v2 rfl rfl) h2
  obtain ⟨a3, rfl, rfl, rfl, w3⟩ := open_string Tryz.underlying9 (hval 3 9 v3 rfl rfl) h3
  clear hA0 hval0
  refine (walk a0 a1 cap1 ss1 e2 a3 W w0 w1 w2 w3).mono fun e W' ⟨he, bel⟩ => ?_
  subst he
  exact ⟨_, rfl, _, _, _, [], _, [], hW', trodAll_mk1 (shut_bool Tryz.underlying4 _), (trodAll_cons_mk (shut_int Tryz.underlying3 w0) (trodAll_cons_mk (Below.trod laidOut (by kernel_rfl) (of_decide_eq_true (by kernel_rfl)) k1 bel lt1) (trodAll_cons_mk (Below.trod laidOut (by kernel_rfl) (of_decide_eq_true (by kernel_rfl)) k2 bel lt2) (trodAll_cons_mk (shut_string Tryz.underlying9 w3) trodAll_mk0)))), rfl, bel.frame _, fun h => by cases h⟩

theorem over : Rows.journalAsksRow.holds Tryz.pinned (OpenSpec.ofChange Rows.journalAsksSpec) :=
  OpenClaim.holds_of_wide 3 Tryz.f3 rfl rfl rfl rfl rfl rfl rfl ⟨rfl, rfl, rfl, rfl, rfl⟩ rfl rfl rfl rfl rfl (by kernel_rfl) Tryz.func3 (by kernel_rfl)
    (of_decide_eq_true (by kernel_rfl)) (by unfold Func.isWrapper; first | (rw [if_pos (by decide +kernel)]; kernel_rfl) | (rw [if_neg (by decide +kernel)]; exact ⟨rfl, rfl⟩))
    (fun os started H enc _ => lifted os started H enc)
end Go.Proofs.YtfmhmokbbkliaaaGreat.journalAsks

namespace Go.Proofs.YtfmhmokbbkliaaaGreat
/-- The statement. -/
theorem journalAsks_holds : Rows.JournalAsksSaid := journalAsks.over
#print axioms journalAsks_holds
end Go.Proofs.YtfmhmokbbkliaaaGreat
