/- The contracts of log.Store and log.Add. -/
import Derived.Test.YtokldcifhjkmnaaLogD
namespace Go.Proofs.Ytokldcifhjkmnaa.Lgg
open Go.RowKit Go.Proofs.Ytokldcifhjkmnaa
open Go.Proofs.Ytokldcifhjkmnaa.Smm (sealB)
set_option linter.unusedVariables false

theorem newN_size (s : ByteArray) : (newN s).size = s.size + 4 := by unfold newN; rw [Wir.app_size]; rfl
theorem encL_size {ep : Int} {es : List En} (h : RtL ⟨ep, es⟩) : (encL ⟨ep, es⟩).size ≤ 24 + es.length * 624 := by
  have hep := ep_in h.1
  simp only at hep
  have h1 := upE_len ep es (by omega) (by omega) h.each es.length (Nat.le_refl _)
  unfold upE at h1
  rw [List.take_length, Wir.size_list] at h1
  exact h1

section
variable {w0 w : World} {K : Nat → Prop} {pd : Nat} {ds ds' : DS}

set_option maxRecDepth 100000 in
set_option maxHeartbeats 2000000 in
/-- A log that is right is stored. -/
theorem store_val (h : Dk w0 K w pd ds) (s : ByteArray) (hs : nmOk s = true) {O : Nat → Prop} {a : Option Addr} {es : List En} (hl : Lie enC O w a es) (ep : Int) (n c : Nat) (hn : es.length = n) (hR : RtL ⟨ep, es⟩) (q : Int) (hq : stoR ds s (encL ⟨ep, es⟩) = (q, ds')) :
    Calls Try.prog 21 #[.pointer (some ⟨pd, 0, none⟩), .string s, .agg #[.int .i64 ep, .slice a n c]] w fun e w' => e = .returned (.int .i64 q) ∧ Dk w0 K w' pd ds' ∧ Stay (fun k => ¬ K k) w w' := by
  have hs2 := (mk_nm s).1 hs
  have hJs : (encL ⟨ep, es⟩).size ≤ 200000 := by
    have := encL_size hR
    have h3 := hR.2.1
    simp only at h3
    omega
  obtain ⟨J, hJ⟩ : ∃ J, encL ⟨ep, es⟩ = J := ⟨_, rfl⟩
  rw [hJ] at hq hJs
  have hnz := newN_size s
  have ha := fun (w : World) => run_string_add_sum (P := Try.prog) w s ⟨#[46, 110, 101, 119]⟩ (by show s.size + 4 ≤ _; omega)
  have haE : s ++ (⟨#[46, 110, 101, 119]⟩ : ByteArray) = newN s := rfl
  rw [haE] at ha
  clear haE
  have HB : Hid (∀ W, Below w.heap.size w W → Calls Try.prog 9 #[.agg #[.int .i64 ep, .slice a n c]] W fun e w' => e = .returned (.tuple #[.string J, .int .i64 0]) ∧ Below W.heap.size W w') := fun W hb => bytes_yes (hl.below hb) ep n c hn hR J hJ
  have HNM : Hid (∀ W, Calls Try.prog 50 #[.string s] W fun e w' => e = .returned (.bool true) ∧ w' = W) := fun W => mayBeName_val s true W (by unfold maxLen; omega) hs
  have HH : Hid (Dk w0 K w pd ds) := h
  obtain ⟨NS, hNS⟩ : ∃ N, newN s = N := ⟨_, rfl⟩
  unfold stoR at hq
  rw [hNS] at hq ha hnz
  obtain ⟨⟨e1, d1⟩, hr1⟩ : ∃ r, delR ds NS.data.toList = r := ⟨_, rfl⟩
  rw [hr1] at hq
  have HD : Hid (∀ W, Dk w0 K W pd ds → Calls Try.prog 51 #[.pointer (some ⟨pd, 0, none⟩), .string NS] W fun e w' => e = .returned (.int .i64 e1) ∧ Dk w0 K w' pd d1 ∧ Stay (fun k => ¬ K k) W w') := fun W hW => deleted_val hW NS (by unfold maxLen; omega) e1 hr1
  clear h hl hn hR hs hJ hNS hr1
  simp only at hq
  by_cases h1 : e1 = 0
  · rw [if_pos h1] at hq
    subst h1
    obtain ⟨⟨e2, d2⟩, hr2⟩ : ∃ r, apsR d1 NS.data.toList J.data.toList = r := ⟨_, rfl⟩
    rw [hr2] at hq
    have HA : Hid (∀ W, Dk w0 K W pd d1 → Calls Try.prog 52 #[.pointer (some ⟨pd, 0, none⟩), .string NS, .string J] W fun e w' => e = .returned (.int .i64 e2) ∧ Dk w0 K w' pd d2 ∧ Stay (fun k => ¬ K k) W w') := fun W hW => appended_val hW NS J (by unfold maxLen; omega) (by omega) e2 hr2
    clear hr2
    simp only at hq
    by_cases h2 : e2 = 0
    · rw [if_pos h2] at hq
      subst h2
      simp only [Prod.mk.injEq] at hq
      have HRN : Hid (∀ W, Dk w0 K W pd d2 → Calls Try.prog 53 #[.pointer (some ⟨pd, 0, none⟩), .string NS, .string s] W fun e w' => e = .returned (.int .i64 q) ∧ Dk w0 K w' pd ds' ∧ Stay (fun k => ¬ K k) W w') := fun W hW => dk_rename hW NS s (by unfold maxLen; omega) (by unfold maxLen; omega) q hq.1 hq.2
      clear hq hs2 hJs hnz
      go_enter Try.func21, Try.ntmps21
      go_wp2_with (first
        | (go_at_call 9; refine (HB.out _ (bel_al _ _)).mono ?_; rintro e w1 ⟨rfl, b1⟩; have B1 : Hid (Below w.heap.size w w1) := bel_tr (bel_al _ _) b1; clear b1)
        | (go_at_call 50; refine (HNM.out _).mono ?_; rintro e w2 ⟨rfl, rfl⟩)
        | (go_at_call 51; refine (HD.out _ (HH.out.below B1.out)).mono ?_; rintro e w3 ⟨rfl, h3, h4⟩; have H3 : Hid (Dk w0 K w3 pd d1 ∧ Stay (fun k => ¬ K k) w w3) := ⟨h3, Stay.two (Stay.of_bel B1.out) h4⟩; clear h3 h4)
        | (go_at_call 52; refine (HA.out _ H3.out.1).mono ?_; rintro e w4 ⟨rfl, h3, h4⟩; have H4 : Hid (Dk w0 K w4 pd d2 ∧ Stay (fun k => ¬ K k) w w4) := ⟨h3, Stay.two H3.out.2 h4⟩; clear h3 h4)
        | (go_at_call 53; refine (HRN.out _ H4.out.1).mono ?_; rintro e w5 ⟨rfl, h3, h4⟩; have H5 : Hid (Dk w0 K w5 pd ds' ∧ Stay (fun k => ¬ K k) w w5) := ⟨h3, Stay.two H4.out.2 h4⟩; clear h3 h4))
      go_ret
      exact ⟨rfl, H5.out.1, H5.out.2⟩
    · rw [if_neg h2] at hq
      simp only [Prod.mk.injEq] at hq
      obtain ⟨rfl, rfl⟩ := hq
      clear hs2 hJs hnz
      go_enter Try.func21, Try.ntmps21
      go_wp2_with (first
        | (go_at_call 9; refine (HB.out _ (bel_al _ _)).mono ?_; rintro e w1 ⟨rfl, b1⟩; have B1 : Hid (Below w.heap.size w w1) := bel_tr (bel_al _ _) b1; clear b1)
        | (go_at_call 50; refine (HNM.out _).mono ?_; rintro e w2 ⟨rfl, rfl⟩)
        | (go_at_call 51; refine (HD.out _ (HH.out.below B1.out)).mono ?_; rintro e w3 ⟨rfl, h3, h4⟩; have H3 : Hid (Dk w0 K w3 pd d1 ∧ Stay (fun k => ¬ K k) w w3) := ⟨h3, Stay.two (Stay.of_bel B1.out) h4⟩; clear h3 h4)
        | (go_at_call 52; refine (HA.out _ H3.out.1).mono ?_; rintro e w4 ⟨rfl, h3, h4⟩; have H4 : Hid (Dk w0 K w4 pd d2 ∧ Stay (fun k => ¬ K k) w w4) := ⟨h3, Stay.two H3.out.2 h4⟩; clear h3 h4))
      go_ret
      exact ⟨rfl, H4.out.1, H4.out.2⟩
  · rw [if_neg h1] at hq
    simp only [Prod.mk.injEq] at hq
    obtain ⟨rfl, rfl⟩ := hq
    clear hs2 hJs hnz
    go_enter Try.func21, Try.ntmps21
    go_wp2_with (first
      | (go_at_call 9; refine (HB.out _ (bel_al _ _)).mono ?_; rintro e w1 ⟨rfl, b1⟩; have B1 : Hid (Below w.heap.size w w1) := bel_tr (bel_al _ _) b1; clear b1)
      | (go_at_call 50; refine (HNM.out _).mono ?_; rintro e w2 ⟨rfl, rfl⟩)
      | (go_at_call 51; refine (HD.out _ (HH.out.below B1.out)).mono ?_; rintro e w3 ⟨rfl, h3, h4⟩; have H3 : Hid (Dk w0 K w3 pd d1 ∧ Stay (fun k => ¬ K k) w w3) := ⟨h3, Stay.two (Stay.of_bel B1.out) h4⟩; clear h3 h4))
    go_ret
    exact ⟨rfl, H3.out.1, H3.out.2⟩

set_option maxRecDepth 100000 in
set_option maxHeartbeats 2000000 in
/-- An entry that may be one is added. -/
theorem add_val (h : Dk w0 K w pd ds) (s : ByteArray) (hs : nmOk s = true) (x : En) (h1 : 1 ≤ x.tx) (h2 : x.tx ≤ 300) (hd : x.d.size ≤ 600) (q : Int) (hq : addR ds s (encE x) = (q, ds')) :
    Calls Try.prog 22 #[.pointer (some ⟨pd, 0, none⟩), .string s, .agg #[.int .i64 x.tx, .string x.d]] w fun e w' => e = .returned (.int .i64 q) ∧ Dk w0 K w' pd ds' ∧ Stay (fun k => ¬ K k) w w' := by
  have hs2 := (mk_nm s).1 hs
  have hJs := encE_size (x := x) (by omega) (by omega) hd
  have HE0 := fun W => entryBytes_val x W (by omega) (by omega) hd
  obtain ⟨J, hJ⟩ : ∃ J, encE x = J := ⟨_, rfl⟩
  rw [hJ] at hq hJs HE0
  obtain ⟨tx, d⟩ := x
  simp only at h1 h2 hd HE0 ⊢
  have HE : Hid (∀ W, Calls Try.prog 28 #[.agg #[.int .i64 tx, .string d]] W fun e w' => e = .returned (.string J) ∧ Below W.heap.size W w') := HE0
  have HNM : Hid (∀ W, Calls Try.prog 50 #[.string s] W fun e w' => e = .returned (.bool true) ∧ w' = W) := fun W => mayBeName_val s true W (by unfold maxLen; omega) hs
  have HMD : Hid (∀ W, Calls Try.prog 33 #[.string d] W fun e w' => e = .returned (.bool true) ∧ w' = W) := fun W => mayBeData_val d true W (by unfold maxLen; omega) (decide_eq_true hd)
  have HH : Hid (Dk w0 K w pd ds) := h
  obtain ⟨t, ht⟩ : ∃ t, rdT ds s.data.toList = t := ⟨_, rfl⟩
  obtain ⟨r, hrd⟩ : ∃ r, rdE ds s.data.toList = r := ⟨_, rfl⟩
  have HR : Hid (∀ W, Dk w0 K W pd ds → Calls Try.prog 41 #[.pointer (some ⟨pd, 0, none⟩), .string s] W fun e w' => e = .returned (.tuple #[.string t, .int .i64 r]) ∧ Below W.heap.size W w') := fun W hW => dk_read hW s (by unfold maxLen; omega) t r ht hrd
  unfold addR at hq
  rw [hrd] at hq
  clear HE0 h ht hrd hJ hd hs
  by_cases h0 : r = 0
  · rw [if_pos h0] at hq
    subst h0
    have HA : Hid (∀ W, Dk w0 K W pd ds → Calls Try.prog 52 #[.pointer (some ⟨pd, 0, none⟩), .string s, .string J] W fun e w' => e = .returned (.int .i64 q) ∧ Dk w0 K w' pd ds' ∧ Stay (fun k => ¬ K k) W w') := fun W hW => appended_val hW s J (by unfold maxLen; omega) (by omega) q hq
    clear hq hs2 hJs
    go_enter Try.func22, Try.ntmps22
    go_wp2_with (first
      | (go_at_call 33; refine (HMD.out _).mono ?_; rintro e w1 ⟨rfl, rfl⟩)
      | (go_at_call 50; refine (HNM.out _).mono ?_; rintro e w2 ⟨rfl, rfl⟩)
      | (go_at_call 41; refine (HR.out _ (HH.out.below (bel_al _ _))).mono ?_; rintro e w3 ⟨rfl, b3⟩; have x0 := bel_cell b3 (World.cell?_alloc_new w _ _ 0); have x1 := bel_cell b3 (World.cell?_alloc_new w _ _ 1); have B3 : Hid (Below w.heap.size w w3) := bel_tr (bel_al _ _) b3; clear b3)
      | (go_at_call 28; refine (HE.out _).mono ?_; rintro e w4 ⟨rfl, b4⟩; have B4 : Hid (Below w.heap.size w w4) := bel_tr B3.out b4; clear b4)
      | (go_at_call 52; refine (HA.out _ (HH.out.below B4.out)).mono ?_; rintro e w5 ⟨rfl, h3, h4⟩; have H5 : Hid (Dk w0 K w5 pd ds' ∧ Stay (fun k => ¬ K k) w w5) := ⟨h3, Stay.two (Stay.of_bel B4.out) h4⟩; clear h3 h4))
    go_ret
    exact ⟨rfl, H5.out.1, H5.out.2⟩
  · rw [if_neg h0] at hq
    simp only [Prod.mk.injEq] at hq
    obtain ⟨rfl, rfl⟩ := hq
    clear hs2 hJs
    go_enter Try.func22, Try.ntmps22
    go_wp2_with (first
      | (go_at_call 33; refine (HMD.out _).mono ?_; rintro e w1 ⟨rfl, rfl⟩)
      | (go_at_call 50; refine (HNM.out _).mono ?_; rintro e w2 ⟨rfl, rfl⟩)
      | (go_at_call 41; refine (HR.out _ (HH.out.below (bel_al _ _))).mono ?_; rintro e w3 ⟨rfl, b3⟩; have B3 : Hid (Below w.heap.size w w3) := bel_tr (bel_al _ _) b3; clear b3))
    go_ret
    exact ⟨rfl, HH.out.below B3.out, Stay.of_bel B3.out⟩
end

end Go.Proofs.Ytokldcifhjkmnaa.Lgg
