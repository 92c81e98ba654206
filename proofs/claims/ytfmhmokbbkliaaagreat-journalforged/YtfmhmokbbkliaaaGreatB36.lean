/- Part 36 of the proof: JrnG1. -/
import Derived.Test.YtfmhmokbbkliaaaGreatB28
import Derived.Test.YtfmhmokbbkliaaaGreatB35

/- The contract of journal.takeLog. -/
namespace Go.Proofs.YtfmhmokbbkliaaaGreat.Jrn
open Go.RowKit Go.Proofs.YtfmhmokbbkliaaaGreat Go.Proofs.YtfmhmokbbkliaaaGreat.Wir Go.Proofs.YtfmhmokbbkliaaaGreat.Lgg Go.Proofs.YtfmhmokbbkliaaaGreat.Sep
set_option linter.unusedVariables false

theorem hz_none (w : World) : Hz w (fun _ => False) [] w := Hz.start (fun _ e => e.elim)
theorem hz_bel {w w1 : World} {L : List Th} (h : Hz w (fun _ => False) L w1) : Below w.heap.size w w1 := h.stay.below (Nat.le_refl _) (fun _ e => e.elim)
theorem append_acts {w : World} (s d : ByteArray) (hs : s.size ≤ maxLen) (hd : d.size ≤ 140737488355328) {pd : Nat} {ds ds' : DS} (q : Int) (hq : begE ds (refA ds s.data.toList d.data.toList) = q) (hds : doD ds (refA ds s.data.toList d.data.toList) (fapp s.data.toList d.data.toList) = ds') :
    Acts Tryz.prog 33 #[.pointer (some ⟨pd, 0, none⟩), .string s, .string d] (dsk pd ds) w (fun e _ => e = .returned (.int .i64 q)) (dsk pd ds') := dsk_acts fun w0 K h => dk_append h s d hs hd q hq hds
theorem new_hz {w w1 : World} {O : Nat → Prop} {L : List Th} (h : Hz w O L w1) (room r : Int) (hr : -9223372036854775808 ≤ room ∧ room < 9223372036854775808) (hm : max room 0 = r) :
    Calls Tryz.prog 19 #[.int .i64 room] w1 fun e w' => ∃ pd, e = .returned (.pointer (some ⟨pd, 0, none⟩)) ∧ Hz w O (dsk pd ⟨r, 0, false, []⟩ :: L) w' :=
  (new_val room r w1 hr hm).mono fun e w' ⟨pd, h1, h2, h3⟩ => ⟨pd, h1, h.put h3 h2⟩

/-- The first append to a new disk. -/
theorem app_new (b : ByteArray) : ∃ q ds', begE ⟨400000, 0, false, []⟩ (refA ⟨400000, 0, false, []⟩ lgN.data.toList b.data.toList) = q ∧ doD ⟨400000, 0, false, []⟩ (refA ⟨400000, 0, false, []⟩ lgN.data.toList b.data.toList) (fapp lgN.data.toList b.data.toList) = ds' ∧ ((b.size ≤ 400000 ∧ q = 0 ∧ ds' = ⟨400000, 0, false, [(lgN.data.toList, b.data.toList, 0)]⟩) ∨ (400000 < b.size ∧ q ≠ 0)) := by
  have hl : b.data.toList.length = b.size := size_list b
  have hn : nameOk lgN.data.toList = true := by decide
  by_cases h : b.size ≤ 400000
  · have h0 : refA ⟨400000, 0, false, []⟩ lgN.data.toList b.data.toList = 0 := refA_ok hn (by show 0 + b.data.toList.length ≤ 400000; omega) (.inr (by simp)) (by show ((0 + b.data.toList.length : Nat) : Int) ≤ 400000; omega)
    rw [h0]
    refine ⟨0, _, begE_plain _ _ _, doD_plain _ _ _, .inl ⟨h, rfl, rfl⟩⟩
  · have h0 : refA ⟨400000, 0, false, []⟩ lgN.data.toList b.data.toList = 4 := by
      unfold refA
      rw [if_pos hn, if_pos (by show 400000 < 0 + b.data.toList.length; omega)]
    rw [h0]
    exact ⟨4, _, begE_plain _ _ _, rfl, .inr ⟨by omega, by omega⟩⟩

set_option maxRecDepth 100000 in
set_option maxHeartbeats 2000000 in
theorem takeLog_no (b : ByteArray) (hb : b.size ≤ 140737488355328) (h : 400000 < b.size ∨ parseL b = none) (w : World) :
    Calls Tryz.prog 96 #[.string b] w fun e w' => e = leftV ∧ Below w.heap.size w w' := by
  have HY : Hid (∀ W, Calls Tryz.prog 94 #[.bool true] W fun e w' => e = .returned (.tuple #[]) ∧ w' = W) := need_yes
  have HF : Hid (∀ W, Calls Tryz.prog 94 #[.bool false] W fun e w' => e = leftV ∧ w' = W) := need_no
  obtain ⟨q, ds', hq, hds, hways⟩ := app_new b
  have CN : Hid (∀ W, Hz w (fun _ => False) [] W → Calls Tryz.prog 19 #[.int .i64 400000] W fun e w' => ∃ pd, e = .returned (.pointer (some ⟨pd, 0, none⟩)) ∧ Hz w (fun _ => False) [dsk pd ⟨400000, 0, false, []⟩] w') := fun W h => new_hz h 400000 400000 (by omega) (by omega)
  have CA : Hid (∀ W pd, Hz w (fun _ => False) [dsk pd ⟨400000, 0, false, []⟩] W → Calls Tryz.prog 33 #[.pointer (some ⟨pd, 0, none⟩), .string ⟨#[108, 111, 103]⟩, .string b] W fun e w' => e = .returned (.int .i64 q) ∧ Hz w (fun _ => False) [dsk pd ds'] w') := fun W pd h => h.act 0 rfl (append_acts lgN b lg_small hb q hq hds)
  have HZ0 : Hid (∀ o, Hz w (fun _ => False) [] (w.alloc o)) := fun o => (hz_none w).below (bel_al _ _)
  rcases hways with ⟨h1, rfl, rfl⟩ | ⟨h1, h2⟩
  · have hp : parseL b = none := h.elim (fun e => by omega) id
    have CL : Hid (∀ W pd, Hz w (fun _ => False) [dsk pd ⟨400000, 0, false, [(lgN.data.toList, b.data.toList, 0)]⟩] W → Calls Tryz.prog 102 #[.pointer (some ⟨pd, 0, none⟩), .string ⟨#[108, 111, 103]⟩] W fun e w' => ∃ a c g, e = .returned (.tuple #[.agg #[.int .i64 0, .slice a 0 c], .bool false, .int .i64 2]) ∧ Hz w (fun _ => False) [celT 2 (.slice a 0 c) 0 (rowC enC []) g, dsk pd ⟨400000, 0, false, [(lgN.data.toList, b.data.toList, 0)]⟩] w') := fun W pd h => by
      obtain ⟨r1, r2⟩ := rd_head (room := 400000) (f := 0) (n := lgN.data.toList) (A := b.data.toList) (a := 0) (r := [])
      have hl : loadS (rdT ⟨400000, 0, false, [(lgN.data.toList, b.data.toList, 0)]⟩ lgN.data.toList) (rdE ⟨400000, 0, false, [(lgN.data.toList, b.data.toList, 0)]⟩ lgN.data.toList) = (⟨0, []⟩, false, 2) := by
        rw [r1, r2, mk_list]; unfold loadS; rw [if_pos rfl, hp]
      exact load_hz h 0 rfl lgN lg_small ⟨0, []⟩ false 2 hl
    clear hq hds h hp h1
    go_enter Tryz.func96, Tryz.ntmps96
    go_wp2_with (first
      | (go_at_call 19; refine (CN.out _ (HZ0.out _)).mono ?_; rintro e w1 ⟨pd, rfl, hz1⟩; have HZ1 : Hid (Hz w (fun _ => False) [dsk pd ⟨400000, 0, false, []⟩] w1) := hz1; clear hz1)
      | (go_at_call 33; refine (CA.out _ _ HZ1.out).mono ?_; rintro e w2 ⟨rfl, hz2⟩; have HZ2 : Hid (Hz w (fun _ => False) [dsk pd ⟨400000, 0, false, [(lgN.data.toList, b.data.toList, 0)]⟩] w2) := hz2; clear hz2)
      | (go_at_call 94; refine (HY.out _).mono ?_; rintro x wy ⟨rfl, hwy⟩; have hwy2 := hwy.symm; clear hwy; subst hwy2)
      | (go_at_call 94; refine (HF.out _).mono ?_; rintro x wy ⟨rfl, hwy⟩; have hwy2 := hwy.symm; clear hwy; subst hwy2)
      | (go_at_call 102; refine (CL.out _ _ HZ2.out).mono ?_; rintro e w3 ⟨a, c, g, rfl, hz3⟩; have HZ3 : Hid (Hz w (fun _ => False) [celT 2 (.slice a 0 c) 0 (rowC enC []) g, dsk pd ⟨400000, 0, false, [(lgN.data.toList, b.data.toList, 0)]⟩] w3) := hz3; clear hz3))
    exact ⟨rfl, rfl, bel_tr (hz_bel HZ3.out) (bel_al _ _)⟩
  · have hqb : (q == 0) = false := beq_eq_false_iff_ne.2 h2
    clear hq hds h h1
    go_enter Tryz.func96, Tryz.ntmps96
    go_wp2_with (first
      | (go_at_call 19; refine (CN.out _ (HZ0.out _)).mono ?_; rintro e w1 ⟨pd, rfl, hz1⟩; have HZ1 : Hid (Hz w (fun _ => False) [dsk pd ⟨400000, 0, false, []⟩] w1) := hz1; clear hz1)
      | (go_at_call 33; refine (CA.out _ _ HZ1.out).mono ?_; rintro e w2 ⟨rfl, hz2⟩; have HZ2 : Hid (Hz w (fun _ => False) [dsk pd ds'] w2) := hz2; clear hz2)
      | (go_at_call 94; refine (HF.out _).mono ?_; rintro x wy ⟨rfl, hwy⟩; have hwy2 := hwy.symm; clear hwy; subst hwy2))
    exact ⟨rfl, rfl, hz_bel HZ2.out⟩

set_option maxRecDepth 100000 in
set_option maxHeartbeats 2000000 in
theorem takeLog_yes (b : ByteArray) (hb : b.size ≤ 400000) (l : Lg) (R : ByteArray) (hp : parseL b = some (l, R)) (w : World) :
    Calls Tryz.prog 96 #[.string b] w fun e w' => LogC w.heap.size l e w' ∧ Below w.heap.size w w' := by
  have HY : Hid (∀ W, Calls Tryz.prog 94 #[.bool true] W fun e w' => e = .returned (.tuple #[]) ∧ w' = W) := need_yes
  obtain ⟨q, ds', hq, hds, hways⟩ := app_new b
  rcases hways with ⟨h1, rfl, rfl⟩ | ⟨h1, h2⟩
  case inr => omega
  have CN : Hid (∀ W o, Hz w (fun _ => False) [o] W → Calls Tryz.prog 19 #[.int .i64 400000] W fun e w' => ∃ pd, e = .returned (.pointer (some ⟨pd, 0, none⟩)) ∧ Hz w (fun _ => False) [dsk pd ⟨400000, 0, false, []⟩, o] w') := fun W o h => new_hz h 400000 400000 (by omega) (by omega)
  have CA : Hid (∀ W pd o, Hz w (fun _ => False) [dsk pd ⟨400000, 0, false, []⟩, o] W → Calls Tryz.prog 33 #[.pointer (some ⟨pd, 0, none⟩), .string ⟨#[108, 111, 103]⟩, .string b] W fun e w' => e = .returned (.int .i64 0) ∧ Hz w (fun _ => False) [dsk pd ⟨400000, 0, false, [(lgN.data.toList, b.data.toList, 0)]⟩, o] w') := fun W pd o h => h.act 0 rfl (append_acts lgN b lg_small (by omega) 0 hq hds)
  have hz1 := (hz_none w).box [.int .i64 0, .slice none 0 0] 34
  obtain ⟨ep, es⟩ := l
  obtain ⟨n, hn⟩ : ∃ n, es.length = n := ⟨_, rfl⟩
  have CL : Hid (∀ W pd o, Hz w (fun _ => False) [dsk pd ⟨400000, 0, false, [(lgN.data.toList, b.data.toList, 0)]⟩, o] W → Calls Tryz.prog 102 #[.pointer (some ⟨pd, 0, none⟩), .string ⟨#[108, 111, 103]⟩] W fun e w' => ∃ a c g, e = .returned (.tuple #[.agg #[.int .i64 ep, .slice a n c], .bool (decide (R.size = 0)), .int .i64 0]) ∧ Hz w (fun _ => False) [celT 2 (.slice a n c) n (rowC enC es) g, dsk pd ⟨400000, 0, false, [(lgN.data.toList, b.data.toList, 0)]⟩, o] w') := fun W pd o h => by
    obtain ⟨r1, r2⟩ := rd_head (room := 400000) (f := 0) (n := lgN.data.toList) (A := b.data.toList) (a := 0) (r := [])
    have hl : loadS (rdT ⟨400000, 0, false, [(lgN.data.toList, b.data.toList, 0)]⟩ lgN.data.toList) (rdE ⟨400000, 0, false, [(lgN.data.toList, b.data.toList, 0)]⟩ lgN.data.toList) = (⟨ep, es⟩, decide (R.size = 0), 0) := by
      rw [r1, r2, mk_list]; unfold loadS; rw [if_pos rfl, hp]
    have h9 := load_hz h 0 rfl lgN lg_small ⟨ep, es⟩ _ 0 hl
    simp only [hn] at h9
    exact h9
  have HZ0 : Hid (Hz w (fun _ => False) [box w.heap.size [.int .i64 0, .slice none 0 0]] (w.alloc (.cells #[.int .i64 0, .slice none 0 0] 34))) := hz1
  have HN : Hid (es.length = n) := hn
  have hst2 : ∀ (w : World) (a : Addr) (x : Option Addr) (n c : Nat) (m : Mode), (store a (.slice x n c) m).run Tryz.prog w = stored Tryz.prog w a (.slice x n c) m := fun w a x n c m => run_store (P := Tryz.prog) w a _ m rfl
  clear hq hds hp h1 hz1 hn
  generalize decide (R.size = 0) = wh at *
  go_enter Tryz.func96, Tryz.ntmps96
  go_upto_region 1 with fail
  generalize w.alloc (.cells #[.int .i64 0, .slice none 0 0] 34) = W1 at *
  obtain ⟨RB, hRB⟩ : ∃ RB, w.heap.size = RB := ⟨_, rfl⟩
  have HRB : Hid (w.heap.size = RB) := hRB
  rw [hRB] at HZ0
  simp only [hRB]
  clear hRB
  go_upto_region 4 with (first
    | (go_at_call 19; refine (CN.out _ _ HZ0.out).mono ?_; rintro e w1 ⟨pd, rfl, hz1⟩; have HZ1 : Hid (Hz w (fun _ => False) [dsk pd ⟨400000, 0, false, []⟩, box RB [.int .i64 0, .slice none 0 0]] w1) := hz1; clear hz1)
    | (go_at_call 33; refine (CA.out _ _ _ HZ1.out).mono ?_; rintro e w2 ⟨rfl, hz2⟩; have HZ2 : Hid (Hz w (fun _ => False) [dsk pd ⟨400000, 0, false, [(lgN.data.toList, b.data.toList, 0)]⟩, box RB [.int .i64 0, .slice none 0 0]] w2) := hz2; clear hz2)
    | (go_at_call 94; refine (HY.out _).mono ?_; rintro x wy ⟨rfl, hwy⟩; have hwy2 := hwy.symm; clear hwy; subst hwy2)
    | (go_at_call 102; refine (CL.out _ _ _ HZ2.out).mono ?_; rintro e w3 ⟨a, c, g, rfl, hz3⟩; have HZ3 : Hid (Hz w (fun _ => False) [celT 2 (.slice a n c) n (rowC enC es) g, dsk pd ⟨400000, 0, false, [(lgN.data.toList, b.data.toList, 0)]⟩, box RB [.int .i64 0, .slice none 0 0]] w3) := hz3; clear hz3))
  have HZ4 : Hid (Hz w (fun _ => False) [box w3.heap.size [.int .i64 ep, .slice a n c], celT 2 (.slice a n c) n (rowC enC es) g, dsk pd ⟨400000, 0, false, [(lgN.data.toList, b.data.toList, 0)]⟩, box RB [.int .i64 0, .slice none 0 0]] (w3.alloc (.cells #[.int .i64 ep, .slice a n c] 34))) := HZ3.out.box [.int .i64 ep, .slice a n c] 34
  have y0 := HZ4.out.cell 0 rfl (j := 0) rfl
  have y1 := HZ4.out.cell 0 rfl (j := 1) rfl
  have z0 := HZ4.out.cell 3 rfl (j := 0) rfl
  have z1 := HZ4.out.cell 3 rfl (j := 1) rfl
  have f0 := HZ4.out.fr 3 rfl 0
  have f1 := HZ4.out.fr 3 rfl 1
  clear HZ3
  generalize w3.alloc (.cells #[.int .i64 ep, .slice a n c] 34) = W4 at *
  generalize w3.heap.size = LB at *
  go_wp2_with (go_at_call 94; refine (HY.out _).mono ?_; rintro x wy ⟨rfl, hwy⟩; have hwy2 := hwy.symm; clear hwy; subst hwy2)
  have h5 := (HZ4.out.setBox 3 rfl 0 (.int .i64 ep) (by simp)).setBox 3 rfl 1 (.slice a n c) (by simp)
  have k0 := h5.cell 3 rfl (j := 0) rfl
  have k1 := h5.cell 3 rfl (j := 1) rfl
  obtain ⟨O3, k3⟩ := h5.get 1 rfl
  obtain ⟨O4, k4, k5⟩ := h5.stars.get 1 rfl
  have hC : Cel (fun q => w.heap.size ≤ q) ((W4.setCell ⟨RB, 0, none⟩ (.int .i64 ep)).setCell ⟨RB, 1, none⟩ (.slice a n c)) 2 (.slice a n c) n (rowC enC es) g := k4.1.stay (Nat.le_refl _) (fun _ _ => rfl) (fun q hq => (k5 q hq).elim (fun e => e.elim) And.left)
  refine bodyPost_ret (v := .agg #[.int .i64 ep, .slice a n c]) ?_ rfl ⟨⟨a, c, g, by simp only [HN.out], by simp only [HN.out]; exact hC⟩, hz_bel h5⟩
  simp only [results, Tryz.results96]
  simp [go_sem, k0, k1]

end Go.Proofs.YtfmhmokbbkliaaaGreat.Jrn
