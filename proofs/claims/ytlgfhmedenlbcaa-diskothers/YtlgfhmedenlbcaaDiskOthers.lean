/- DiskOthers: for every string and every list of deeds: the statement's function returns true; nothing that was there is changed. No condition. -/
import Derived.Test.YtlgfhmedenlbcaaDiskPick
import Derived.Test.YtlgfhmedenlbcaaDiskDeed
import Derived.StillTailTactics
namespace Go.Proofs.Ytlgfhmedenlbcaa.diskOthers
open Go.ChangeShapes Go.WideShapes Go.ChangeAt Go.RowKit
open Go.ChangeMaps (open_string shut_string)
set_option linter.unusedVariables false

theorem own : ownKnob Try.prog.godebug = none := by kernel_rfl

theorem cut_size (s : ByteArray) (k : Nat) (h : k ≤ s.size) : (s.extract 0 k).size = k := by
  rw [ByteArray.size_extract]; omega
theorem app_size (a b : ByteArray) : (a ++ b).size = a.size + b.size := by simp
theorem ba_len (a : ByteArray) : a.data.toList.length = a.size := Array.length_toList
theorem ba_eq {a b : ByteArray} (h : a.data.toList = b.data.toList) : a = b := by
  cases a; cases b
  simp at h
  rw [h]

section
variable {w0 w : World} {pd : Nat} {room : Int} {S : FS} {mine : List UInt8} {f : List UInt8 × Nat}

theorem One.rise (h : One w0 w pd ⟨room, 0, false, S⟩) : Rise S := by
  obtain ⟨⟨O, h1, _⟩⟩ := h
  exact h1.rise

theorem do_cases (e : Int) (g : FS → FS) (hm : fget S mine = some f) (hg : fget (g S) mine = some f) : ∃ S', doD ⟨room, 0, false, S⟩ e g = ⟨room, 0, false, S'⟩ ∧ fget S' mine = some f := by
  by_cases he : e = 0
  · subst he
    exact ⟨g S, doD_plain _ _ _, hg⟩
  · exact ⟨S, doD_no _ _ _ he, hm⟩

theorem any_append (h : One w0 w pd ⟨room, 0, false, S⟩) (hm : fget S mine = some f) (s d : ByteArray) (hs : s.size ≤ maxLen) (hd : d.size ≤ 140737488355328) (hn : mine ≠ s.data.toList) :
    Calls Try.prog 19 #[.pointer (some ⟨pd, 0, none⟩), .string s, .string d] w fun e w' => ∃ q S', e = .returned (.int .i64 q) ∧ fget S' mine = some f ∧ One w0 w' pd ⟨room, 0, false, S'⟩ := by
  obtain ⟨S', h1, h2⟩ := do_cases (room := room) (refA ⟨room, 0, false, S⟩ s.data.toList d.data.toList) (fapp s.data.toList d.data.toList) hm (by rw [fapp_eq, fget_fput_other (One.rise h) _ hn]; exact hm)
  exact (one_append h s d hs hd _ rfl h1).mono fun e w' ⟨e1, e2⟩ => ⟨_, S', e1, h2, e2⟩

theorem any_sync (h : One w0 w pd ⟨room, 0, false, S⟩) (hm : fget S mine = some f) (s : ByteArray) (hs : s.size ≤ maxLen) (hn : mine ≠ s.data.toList) :
    Calls Try.prog 20 #[.pointer (some ⟨pd, 0, none⟩), .string s] w fun e w' => ∃ q S', e = .returned (.int .i64 q) ∧ fget S' mine = some f ∧ One w0 w' pd ⟨room, 0, false, S'⟩ := by
  obtain ⟨S', h1, h2⟩ := do_cases (room := room) (refM S s.data.toList) (fsyn s.data.toList) hm (by
    unfold fsyn
    cases hf : fget S s.data.toList with
    | none => exact hm
    | some g => show fget (fput S _ _) mine = _; rw [fget_fput_other (One.rise h) _ hn]; exact hm)
  exact (one_sync h s hs _ rfl h1).mono fun e w' ⟨e1, e2⟩ => ⟨_, S', e1, h2, e2⟩

theorem any_delete (h : One w0 w pd ⟨room, 0, false, S⟩) (hm : fget S mine = some f) (s : ByteArray) (hs : s.size ≤ maxLen) (hn : mine ≠ s.data.toList) :
    Calls Try.prog 25 #[.pointer (some ⟨pd, 0, none⟩), .string s] w fun e w' => ∃ q S', e = .returned (.int .i64 q) ∧ fget S' mine = some f ∧ One w0 w' pd ⟨room, 0, false, S'⟩ := by
  obtain ⟨S', h1, h2⟩ := do_cases (room := room) (refM S s.data.toList) (fun S => fdel S s.data.toList) hm (by rw [fget_fdel_other (One.rise h) hn]; exact hm)
  exact (one_delete h s hs _ rfl h1).mono fun e w' ⟨e1, e2⟩ => ⟨_, S', e1, h2, e2⟩

theorem any_rename (h : One w0 w pd ⟨room, 0, false, S⟩) (hm : fget S mine = some f) (s d : ByteArray) (hs : s.size ≤ maxLen) (hd : d.size ≤ maxLen) (hn : mine ≠ s.data.toList) (hn2 : mine ≠ d.data.toList) :
    Calls Try.prog 26 #[.pointer (some ⟨pd, 0, none⟩), .string s, .string d] w fun e w' => ∃ q S', e = .returned (.int .i64 q) ∧ fget S' mine = some f ∧ One w0 w' pd ⟨room, 0, false, S'⟩ := by
  obtain ⟨S', h1, h2⟩ := do_cases (room := room) (refR S s.data.toList d.data.toList) (fren s.data.toList d.data.toList) hm (by
    unfold fren
    cases hf : fget S s.data.toList with
    | none => exact hm
    | some g => show fget (fput (fdel S _) _ _) mine = _; rw [fget_fput_other (rise_fdel (One.rise h) _) _ hn2, fget_fdel_other (One.rise h) hn]; exact hm)
  exact (one_rename h s d hs hd _ rfl h1).mono fun e w' ⟨e1, e2⟩ => ⟨_, S', e1, h2, e2⟩

theorem any_crash {D : List UInt8} (h : One w0 w pd ⟨room, 0, false, S⟩) (hD : 1 ≤ D.length) (hm : fget S mine = some (D, D.length)) (ka : Option Addr) (kb koff kcap m : Nat) (ks : List Int) (hmm : ks.length = m) (hmx : m ≤ maxLen) (hI : Ints w0 .i64 ka kb koff ks) (hks : ∀ k ∈ ks, -9223372036854775808 ≤ k ∧ k ≤ 9223372036854775807) :
    Calls Try.prog 21 #[.pointer (some ⟨pd, 0, none⟩), .slice ka m kcap] w fun e w' => ∃ S', e = .returned (.tuple #[]) ∧ fget S' mine = some (D, D.length) ∧ One w0 w' pd ⟨room, 0, false, S'⟩ := by
  refine (one_crash h ka kb koff kcap m ks hmm hmx hI hks).mono fun e w' ⟨e1, e2⟩ => ⟨_, e1, ?_, e2⟩
  obtain ⟨c, hc⟩ := fget_crashL (One.rise h) ks mine
  rw [show fget (crashL ks (DS.S ⟨room, 0, false, S⟩)) mine = _ from hc, hm]
  have e : cutN (D, D.length) c = D.length := by unfold cutN; simp; omega
  simp only [e, List.take_length]
  rw [if_neg (by omega)]

end

theorem name_ft (u c : ByteArray) (hc : c.size ≤ maxLen) (hcn : [109, 105, 110, 101] ≠ c.data.toList) (h : u.size ≤ maxLen) : ∃ F : ByteArray, F.size ≤ maxLen ∧ [109, 105, 110, 101] ≠ F.data.toList ∧ F = (if u.toList == [109, 105, 110, 101] then c else u) := by
  refine ⟨_, ?_, ?_, rfl⟩
  · split
    · exact hc
    · exact h
  · split
    · exact hcn
    · rename_i hne
      intro e
      apply hne
      rw [ByteArray.toList_eq, ← e]
      rfl

set_option maxRecDepth 100000 in
set_option maxHeartbeats 4000000 in
theorem walk_b (s X D : ByteArray) (a1 : Option Addr) (b1 off1 cap1 n1 M : Nat) (us : List DeedV) (w : World) (hs : s.size ≤ maxLen) (hM : min (s.size : Int) 1000 = (M : Int)) (hX : s.extract 0 M = X) (hXz : X.size = M) (hD : X ++ ⟨#[46]⟩ = D) (hDz : D.size = M + 1) (hn1 : us.length = n1) (hU : Deeds w a1 b1 off1 us) :
    Calls Try.prog 8 #[.string s, .slice a1 n1 cap1] w fun e w' => e = .returned (.bool true) ∧ Below w.heap.size w w' := by
  have hs' : s.size ≤ 9223372036854775807 := by unfold maxLen at hs; omega
  have hx1 : n1 ≤ 9223372036854775807 := by have := hU.len; unfold maxLen at this; omega
  have hM1 : M ≤ 1000 := by omega
  have hMs : M ≤ s.size := by omega
  have ha : ∀ w : World, (Op.stringOp .add X ⟨#[46]⟩).run Try.prog w = .ok (.string D) w := fun w => by
    rw [← hD]; exact run_string_add_sum (P := Try.prog) w X ⟨#[46]⟩ (by show X.size + 1 ≤ _; omega)
  have hDl : D.data.toList.length = M + 1 := by rw [← hDz]; exact ba_len D
  have HDl : Hid _ := hDl
  have HDm : Hid (D.size ≤ 140737488355328) := by show D.size ≤ _; omega
  have HR1 : Hid (refA ⟨2000000, 0, false, []⟩ [109, 105, 110, 101] D.data.toList = 0) := refA_ok (by decide) (by show 0 + _ ≤ _; omega) (.inr (by decide)) (by rw [tot_nil]; omega)
  have HN : Hid _ := hn1
  have HU : Hid _ := hU
  clear hD hDl hn1 hU
  go_enter Try.func8, Try.ntmps8
  go_wp2_with fail
  refine (examples_val _).mono ?_
  rintro e w1 ⟨rfl, bb1⟩
  go_wp2_with fail
  refine (one_new bb1 2000000 2000000 (by omega) (by omega)).mono ?_
  rintro e w2 ⟨pd, rfl, h2⟩
  clear bb1
  go_wp2_with fail
  refine (ok_append h2 ⟨#[109, 105, 110, 101]⟩ D (by decide) HDm.out HR1.out (S' := [([109, 105, 110, 101], D.data.toList, 0)]) rfl).mono ?_
  rintro e w3 ⟨rfl, h3⟩
  clear h2
  go_wp2_with fail
  refine (ok_sync h3 ⟨#[109, 105, 110, 101]⟩ (by decide) (D.data.toList, 0) rfl (S' := [([109, 105, 110, 101], D.data.toList, D.data.toList.length)]) rfl).mono ?_
  rintro e w4 ⟨rfl, h4⟩
  have H4 : Hid _ := h4
  clear h3 h4 HR1
  go_wp2
  go_loopw [7] (fun vi wr => ∃ (k : Nat) (S : FS), k ≤ n1 ∧ k ≤ 20 ∧ vi = .int .i64 k ∧ fget S [109, 105, 110, 101] = some (D.data.toList, D.data.toList.length) ∧ One w wr pd ⟨2000000, 0, false, S⟩) (fun vi _ => 20 - (intOf vi).toNat)
  case atStart => exact ⟨0, _, by omega, by omega, rfl, rfl, H4.out⟩
  case round =>
    obtain ⟨k, S, hkn, hk20, rfl, hSm, hO⟩ := hrel
    have HSm : Hid (fget S [109, 105, 110, 101] = some (D.data.toList, D.data.toList.length)) := hSm
    have HO : Hid (One w wr pd ⟨2000000, 0, false, S⟩) := hO
    clear hSm hO
    by_cases hlt : k < n1 ∧ k < 20
    · obtain ⟨hlt0, hlt1⟩ := hlt
      have hk0 : k < us.length := by rw [HN.out]; exact hlt0
      obtain rfl := HU.out.addr (by omega)
      have hb1 : b1 < w.heap.size := World.block_lt_of_cell? _ _ (HU.out.cell k hk0).1
      have hbel := HO.out.bel
      have hbk := World.cell?_of_block (w := w) (w' := wr) (a := ⟨b1, 0, none⟩) (hbel.block b1 hb1)
      have hcl : ∀ j, wr.cell? ⟨b1, j, none⟩ = w.cell? ⟨b1, j, none⟩ := fun j => World.cell?_of_block (a := ⟨b1, j, none⟩) (hbel.block b1 hb1)
      obtain ⟨q0, q1, q2, q3, q4, q5⟩ := HU.out.cell k hk0
      have hok := HU.out.ok k hk0
      generalize us[k] = u at *
      obtain ⟨uk, uf, ut, ud, un, ka, kb, ko, kc, ks⟩ := u
      have g0 := (hcl _).trans q0
      have g1 := (hcl _).trans q1
      have g2 := (hcl _).trans q2
      have g3 := (hcl _).trans q3
      have g4 := (hcl _).trans q4
      have g5 := (hcl _).trans q5
      simp only [Nat.add_zero] at g0 g1 g2 g3 g4 g5
      clear q0 q1 q2 q3 q4 q5 hcl hbk
      have hokk := hok.k
      have HOK : Hid (DeedOk w ⟨uk, uf, ut, ud, un, ka, kb, ko, kc, ks⟩) := hok
      obtain ⟨Q, hQ⟩ : ∃ Q, keepN uk % 6 = Q := ⟨_, rfl⟩
      have hQ6 : Q < 6 := by rw [← hQ]; exact Nat.mod_lt _ (by omega)
      have CP : Hid _ := fun w => pick_val uk 6 Q w hok.k (by omega) hQ
      clear hok hQ hokk hbel hk0
      have hal : ∀ o, One w (wr.alloc o) pd ⟨2000000, 0, false, S⟩ := fun o => HO.out.below ((Below.refl _ wr).alloc (Nat.le_refl _) o)
      have HAL : Hid (∀ o, One w (wr.alloc o) pd ⟨2000000, 0, false, S⟩) := hal
      clear hal HO
      have hud : ud.size ≤ 9223372036854775807 := by have := HOK.out.d; unfold maxLen at this; simp at this; omega
      obtain ⟨M2, hM2, hM2s, hM21⟩ : ∃ M : Nat, min (ud.size : Int) 1000 = (M : Int) ∧ M ≤ ud.size ∧ M ≤ 1000 := ⟨min ud.size 1000, by omega, by omega, by omega⟩
      obtain ⟨Y, hY⟩ : ∃ Y, ud.extract 0 M2 = Y := ⟨_, rfl⟩
      have HYm : Hid (Y.size ≤ 140737488355328) := by show Y.size ≤ _; rw [← hY, cut_size _ _ hM2s]; omega
      obtain ⟨m, hm⟩ : ∃ m, ks.length = m := ⟨_, rfl⟩
      have HM : Hid _ := hm
      rw [hm] at g5
      clear hm
      cases hfm : uf.toList == [109, 105, 110, 101] <;> cases htm : ut.toList == [109, 105, 110, 101]
      all_goals
        go_wp2_with fail
        obtain ⟨F, hFm, hFn, hF⟩ := name_ft uf ⟨#[97]⟩ (by decide) (by decide) HOK.out.f
        obtain ⟨T, hTm, hTn, hT⟩ := name_ft ut ⟨#[98]⟩ (by decide) (by decide) HOK.out.t
        rw [hfm] at hF
        rw [htm] at hT
        simp at hF hT
        rw [← hF, ← hT]
        have HF : Hid (F.size ≤ maxLen ∧ T.size ≤ maxLen ∧ [109, 105, 110, 101] ≠ F.data.toList ∧ [109, 105, 110, 101] ≠ T.data.toList) := ⟨hFm, hTm, hFn, hTn⟩
        clear hFm hTm hFn hTn hF hT hfm htm
        refine (CP.out _).mono ?_
        rintro e wp ⟨rfl, hwp⟩
        subst hwp
        have hQc : Q = 0 ∨ Q = 1 ∨ Q = 2 ∨ Q = 3 ∨ Q = 4 ∨ Q = 5 := by omega
        clear CP hQ6
        rcases hQc with rfl | rfl | rfl | rfl | rfl | rfl
        · go_wp2
          obtain ⟨wa, hwa⟩ : ∃ wa, wr.alloc (.cells #[.int .i64 uk, .string F, .string T, .string ud, .int .i64 un, .slice ka m kc] 31) = wa := ⟨_, rfl⟩
          have f1 : wa.cell? ⟨wr.heap.size, 1, none⟩ = some (.string F) := hwa ▸ World.cell?_alloc_new wr _ _ 1
          have f3 : wa.cell? ⟨wr.heap.size, 3, none⟩ = some (.string ud) := hwa ▸ World.cell?_alloc_new wr _ _ 3
          have HA5 : Hid (One w wa.drew pd ⟨2000000, 0, false, S⟩) := (hwa ▸ HAL.out _ : One w wa pd ⟨2000000, 0, false, S⟩).below ((Below.refl _ _).drew)
          rw [hwa]
          refine wp_region_still_tail 10 (by kernel_rfl) (by kernel_rfl) ?_
          show wpStill Try.prog _ wa.drew (fun a' => wpList Try.prog _ _ _ a' wa.drew) _ _
          simp only [List.take_succ_cons, List.take_zero, List.drop_succ_cons, List.drop_zero]
          repeat still_step
          refine wpStill_nil ?_
          go_wp2_with fail
          refine (any_append HA5.out HSm.out F Y HF.out.1 HYm.out HF.out.2.2.1).mono ?_
          rintro e w5 ⟨q5, S5, rfl, hm5, h5⟩
          go_wp2_with fail
          refine (ok_read h5 ⟨#[109, 105, 110, 101]⟩ (by decide) D D.data.toList.length hm5).mono ?_
          rintro e w6 ⟨rfl, h6⟩
          have H6 : Hid _ := h6
          have HM5 : Hid _ := hm5
          clear h5 h6 hm5
          go_wp2
          go_roundw
          case rel => exact ⟨k + 1, S5, by omega, by omega, by go_num, HM5.out, H6.out⟩
          case measure => simp [intOf]; omega
        · go_wp2
          obtain ⟨wa, hwa⟩ : ∃ wa, wr.alloc (.cells #[.int .i64 uk, .string F, .string T, .string ud, .int .i64 un, .slice ka m kc] 31) = wa := ⟨_, rfl⟩
          have f1 : wa.cell? ⟨wr.heap.size, 1, none⟩ = some (.string F) := hwa ▸ World.cell?_alloc_new wr _ _ 1
          have f3 : wa.cell? ⟨wr.heap.size, 3, none⟩ = some (.string ud) := hwa ▸ World.cell?_alloc_new wr _ _ 3
          have HA5 : Hid (One w wa.drew pd ⟨2000000, 0, false, S⟩) := (hwa ▸ HAL.out _ : One w wa pd ⟨2000000, 0, false, S⟩).below ((Below.refl _ _).drew)
          rw [hwa]
          refine wp_region_still_tail 10 (by kernel_rfl) (by kernel_rfl) ?_
          show wpStill Try.prog _ wa.drew (fun a' => wpList Try.prog _ _ _ a' wa.drew) _ _
          simp only [List.take_succ_cons, List.take_zero, List.drop_succ_cons, List.drop_zero]
          repeat still_step
          refine wpStill_nil ?_
          go_wp2_with fail
          refine (any_append HA5.out HSm.out F Y HF.out.1 HYm.out HF.out.2.2.1).mono ?_
          rintro e w5 ⟨q5, S5, rfl, hm5, h5⟩
          go_wp2_with fail
          refine (ok_read h5 ⟨#[109, 105, 110, 101]⟩ (by decide) D D.data.toList.length hm5).mono ?_
          rintro e w6 ⟨rfl, h6⟩
          have H6 : Hid _ := h6
          have HM5 : Hid _ := hm5
          clear h5 h6 hm5
          go_wp2
          go_roundw
          case rel => exact ⟨k + 1, S5, by omega, by omega, by go_num, HM5.out, H6.out⟩
          case measure => simp [intOf]; omega
        · go_wp2_with fail
          refine (any_sync (HAL.out _) HSm.out F HF.out.1 HF.out.2.2.1).mono ?_
          rintro e w5 ⟨q5, S5, rfl, hm5, h5⟩
          go_wp2_with fail
          refine (ok_read h5 ⟨#[109, 105, 110, 101]⟩ (by decide) D D.data.toList.length hm5).mono ?_
          rintro e w6 ⟨rfl, h6⟩
          have H6 : Hid _ := h6
          have HM5 : Hid _ := hm5
          clear h5 h6 hm5
          go_wp2
          go_roundw
          case rel => exact ⟨k + 1, S5, by omega, by omega, by go_num, HM5.out, H6.out⟩
          case measure => simp [intOf]; omega
        · go_wp2_with fail
          refine (any_rename (HAL.out _) HSm.out F T HF.out.1 HF.out.2.1 HF.out.2.2.1 HF.out.2.2.2).mono ?_
          rintro e w5 ⟨q5, S5, rfl, hm5, h5⟩
          go_wp2_with fail
          refine (ok_read h5 ⟨#[109, 105, 110, 101]⟩ (by decide) D D.data.toList.length hm5).mono ?_
          rintro e w6 ⟨rfl, h6⟩
          have H6 : Hid _ := h6
          have HM5 : Hid _ := hm5
          clear h5 h6 hm5
          go_wp2
          go_roundw
          case rel => exact ⟨k + 1, S5, by omega, by omega, by go_num, HM5.out, H6.out⟩
          case measure => simp [intOf]; omega
        · go_wp2_with fail
          refine (any_delete (HAL.out _) HSm.out F HF.out.1 HF.out.2.2.1).mono ?_
          rintro e w5 ⟨q5, S5, rfl, hm5, h5⟩
          go_wp2_with fail
          refine (ok_read h5 ⟨#[109, 105, 110, 101]⟩ (by decide) D D.data.toList.length hm5).mono ?_
          rintro e w6 ⟨rfl, h6⟩
          have H6 : Hid _ := h6
          have HM5 : Hid _ := hm5
          clear h5 h6 hm5
          go_wp2
          go_roundw
          case rel => exact ⟨k + 1, S5, by omega, by omega, by go_num, HM5.out, H6.out⟩
          case measure => simp [intOf]; omega
        · go_wp2_with fail
          refine (any_crash (HAL.out _) (by rw [HDl.out]; omega) HSm.out ka kb ko kc m ks HM.out (by have := HOK.out.kl; simp only at this; rw [HM.out] at this; exact this) HOK.out.ks HOK.out.kz).mono ?_
          rintro e w5 ⟨S5, rfl, hm5, h5⟩
          go_wp2_with fail
          refine (ok_read h5 ⟨#[109, 105, 110, 101]⟩ (by decide) D D.data.toList.length hm5).mono ?_
          rintro e w6 ⟨rfl, h6⟩
          have H6 : Hid _ := h6
          have HM5 : Hid _ := hm5
          clear h5 h6 hm5
          go_wp2
          go_roundw
          case rel => exact ⟨k + 1, S5, by omega, by omega, by go_num, HM5.out, H6.out⟩
          case measure => simp [intOf]; omega
    · have hex : n1 ≤ k ∨ (k < n1 ∧ 20 ≤ k) := by omega
      clear hlt
      rcases hex with c1 | ⟨c1, c2⟩
      all_goals
        go_wp2
        go_ret
        exact ⟨rfl, HO.out.bel⟩

theorem walk (a0 : ByteArray) (a1 : Option Addr) (b1 off1 cap1 : Nat) (us1 : List DeedV) (w : World) (w0 : a0.size ≤ maxLen) (w1 : Deeds w a1 b1 off1 us1) :
    Calls Try.prog 8 #[.string a0, .slice a1 us1.length cap1] w fun e w' => e = .returned (.bool true) ∧ Below w.heap.size w w' :=
  walk_b a0 (a0.extract 0 (min a0.size 1000)) _ a1 b1 off1 cap1 _ (min a0.size 1000) us1 w w0 (by omega) rfl (cut_size _ _ (by omega)) rfl (by rw [app_size, cut_size _ _ (by omega)]; rfl) rfl w1

set_option maxRecDepth 100000 in
theorem lifted (os : Os) (started : os.Started) (H : Type) (enc : TypeId × Value → H) :
    ReturnsInHanded {} Try.checked os 8 .any (Rows.diskOthersSpec.pre6 enc Try.prog Try.f8 Rows.diskOthersRow.domain false) (Rows.diskOthersSpec.post enc Try.prog Try.f8 false true false false) := by
  refine returnsInHanded_of_change (C := Try.checked) own started (by kernel_rfl) Try.func8
    (ChangeSpec.witness6 (enc := enc) (C := Try.checked) false ⟨#[], #[.string ByteArray.empty, .slice none 0 0], []⟩ 8 (by kernel_rfl) (by kernel_rfl) (by kernel_rfl) (by kernel_rfl)) ?_
  intro W base args ds gs before hval0 hW hcnd _
  have hval : ∀ (j : Nat) t v, Try.f8.params[j]? = some t → args[j]? = some v → Value.okWide Try.prog W .any base t v := hval0
  have hW' := hW
  obtain ⟨p, q, hA0, hV, rfl, hfz, hnd⟩ := hW
  have hA : DataW.TrodAll enc Try.prog W 0 (fun _ => true) true Try.f8.params.toList args.toList ds p := hA0
  rw [Try.params8] at hA hval
  obtain ⟨v0, vs0, d0, ds0, p0, q0, hargs, rfl, rfl, h0, r0⟩ := trodAll_cons hA
  obtain ⟨v1, vs1, d1, ds1, p1, q1, rfl, rfl, rfl, h1, r1⟩ := trodAll_cons r0
  obtain ⟨rfl, rfl, rfl⟩ := trodAll_nil r1
  obtain rfl : args = #[v0, v1] := by cases args; simp_all
  obtain ⟨rfl, rfl⟩ := trodVars_none hV
  obtain ⟨a0, rfl, rfl, rfl, w0⟩ := open_string Try.underlying9 (hval 0 9 v0 rfl rfl) h0
  obtain ⟨a1, len1, cap1, rfl⟩ := okWide_slice Try.underlying22 (hval 1 22 v1 rfl rfl)
  have k1 := h1
  have lt1 : ∀ x ∈ p1, x.block < W.heap.size := by obtain ⟨m, hm⟩ := k1; exact DataW.trod_lt m _ _ _ hm
  obtain ⟨b1, off1, ss1, rfl, w1⟩ := open_deeds h1
  clear hA0 hval0
  refine (walk a0 a1 b1 off1 cap1 ss1 W w0 w1).mono fun e W' ⟨he, bel⟩ => ?_
  subst he
  exact ⟨_, rfl, _, _, _, [], _, [], hW', trodAll_mk1 (shut_bool Try.underlying4 _), (trodAll_cons_mk (shut_string Try.underlying9 w0) (trodAll_cons_mk (Below.trod laidOut (by kernel_rfl) (of_decide_eq_true (by kernel_rfl)) k1 bel lt1) trodAll_mk0)), rfl, bel.frame _, fun h => by cases h⟩

theorem over : Rows.diskOthersRow.holds Try.pinned (OpenSpec.ofChange Rows.diskOthersSpec) :=
  OpenClaim.holds_of_wide 8 Try.f8 rfl rfl rfl rfl rfl rfl rfl ⟨rfl, rfl, rfl, rfl, rfl⟩ rfl rfl rfl rfl rfl (by kernel_rfl) Try.func8 (by kernel_rfl)
    (of_decide_eq_true (by kernel_rfl)) (by unfold Func.isWrapper; first | (rw [if_pos (by decide +kernel)]; kernel_rfl) | (rw [if_neg (by decide +kernel)]; exact ⟨rfl, rfl⟩))
    (fun os started H enc _ => lifted os started H enc)
end Go.Proofs.Ytlgfhmedenlbcaa.diskOthers

namespace Go.Proofs.Ytlgfhmedenlbcaa
/-- The statement. -/
theorem diskOthers_holds : Rows.DiskOthersSaid := diskOthers.over
#print axioms diskOthers_holds
end Go.Proofs.Ytlgfhmedenlbcaa
