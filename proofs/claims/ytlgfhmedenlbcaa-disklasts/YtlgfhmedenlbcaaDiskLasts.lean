/- DiskLasts: for all lists of strings and every list of numbers: the statement's function returns true; nothing that was there is changed. No condition. -/
import Derived.Test.YtlgfhmedenlbcaaDiskOk
import Derived.Test.YtlgfhmedenlbcaaOpenAll
namespace Go.Proofs.Ytlgfhmedenlbcaa.diskLasts
open Go.ChangeShapes Go.WideShapes Go.ChangeAt Go.RowKit
open Go.ChangeMaps (open_string shut_string)
set_option linter.unusedVariables false

theorem own : ownKnob Try.prog.godebug = none := by kernel_rfl

/-- The one file, if it is there. -/
def stF (p : Bool) (l : List UInt8) (sy : Nat) : FS := if p then [([102], l, sy)] else []

theorem stF_app (p : Bool) (l X : List UInt8) (sy : Nat) (h : p = false → l = [] ∧ sy = 0) : fapp [102] X (stF p l sy) = stF true (l ++ X) sy := by
  cases p with
  | true => rfl
  | false => obtain ⟨rfl, rfl⟩ := h rfl; rfl
theorem stF_ref (p : Bool) (l X : List UInt8) (sy : Nat) (h : l.length + X.length ≤ 400000) : refA ⟨400000, 0, false, stF p l sy⟩ [102] X = 0 := by
  cases p with
  | true => exact refA_ok (by decide) h (.inr (by show 1 < 20; omega)) (by show ((tot [([102], l, sy)] + X.length : Nat) : Int) ≤ _; rw [tot_cons, tot_nil]; simp only; omega)
  | false => exact refA_ok (by decide) (by show 0 + X.length ≤ _; omega) (.inr (by show 0 < 20; omega)) (by show ((tot [] + X.length : Nat) : Int) ≤ _; rw [tot_nil]; omega)

/-- What a crash leaves. -/
theorem stF_crash (ks : List Int) (A B : List UInt8) (p : Bool) (h : p = false → A = [] ∧ B = []) :
    (crashL ks (stF p (A ++ B) A.length) = [] ∧ A = []) ∨ ∃ n, n ≤ B.length ∧ crashL ks (stF p (A ++ B) A.length) = [([102], A ++ B.take n, A.length + n)] := by
  cases p with
  | false =>
    obtain ⟨rfl, rfl⟩ := h rfl
    exact .inl ⟨crashL_nil ks, rfl⟩
  | true =>
    have hle := cutN_le (f := (A ++ B, A.length)) (by simp) (ks.headD 0)
    obtain ⟨e, he⟩ : ∃ e, cutN (A ++ B, A.length) (ks.headD 0) = e := ⟨_, rfl⟩
    have hc : crashL ks (stF true (A ++ B) A.length) = (if e = 0 then [] else [([102], (A ++ B).take e, e)]) ++ crashL ks.tail [] := by rw [← he]; rfl
    rw [he] at hle
    simp at hle
    rw [crashL_nil, List.append_nil] at hc
    by_cases h0 : e = 0
    · left
      rw [hc, if_pos h0]
      exact ⟨rfl, List.length_eq_zero_iff.1 (by omega)⟩
    · right
      refine ⟨e - A.length, by omega, ?_⟩
      rw [hc, if_neg h0, List.take_append, List.take_of_length_le hle.1]
      congr 3
      omega

theorem ba_eq {a b : ByteArray} (h : a.data.toList = b.data.toList) : a = b := by
  cases a; cases b
  simp at h
  rw [h]
theorem ba_app (a b : ByteArray) : (a ++ b).data.toList = a.data.toList ++ b.data.toList := by simp
theorem ba_ext (a : ByteArray) (n : Nat) : (a.extract 0 n).data.toList = a.data.toList.take n := by simp
theorem cut_size (s : ByteArray) (k : Nat) (h : k ≤ s.size) : (s.extract 0 k).size = k := by
  rw [ByteArray.size_extract]; omega
theorem app_size (a b : ByteArray) : (a ++ b).size = a.size + b.size := by simp
theorem ba_len (a : ByteArray) : a.data.toList.length = a.size := Array.length_toList

theorem Strs.at {w w' : World} {a : Option Addr} {b off : Nat} {ss : List ByteArray} (h : Strs w a b off ss) (hb : Below w.heap.size w w') (j : Nat) (hj : j < ss.length) (s : ByteArray) (hs : ss[j] = s) : w'.cell? ⟨b, off + j, none⟩ = some (.string s) := by
  rw [(h.below hb).cell j hj, hs]

set_option maxRecDepth 100000 in
set_option maxHeartbeats 1000000 in
theorem walk_b (a0 : Option Addr) (b0 off0 cap0 n0 : Nat) (ss0 : List ByteArray) (a1 : Option Addr) (b1 off1 cap1 n1 : Nat) (ss1 : List ByteArray) (ka : Option Addr) (kb koff kcap m : Nat) (ks : List Int) (w : World)
    (hn0 : ss0.length = n0) (hS0 : Strs w a0 b0 off0 ss0) (hn1 : ss1.length = n1) (hS1 : Strs w a1 b1 off1 ss1) (hm : ks.length = m) (hmx : m ≤ maxLen) (hI : Ints w .i64 ka kb koff ks) (hks : ∀ k ∈ ks, -9223372036854775808 ≤ k ∧ k ≤ 9223372036854775807) :
    Calls Try.prog 4 #[.slice a0 n0 cap0, .slice a1 n1 cap1, .slice ka m kcap] w fun e w' => e = .returned (.bool true) ∧ Below w.heap.size w w' := by
  have hx0 : n0 ≤ 9223372036854775807 := by have := hS0.len; unfold maxLen at this; omega
  have hx1 : n1 ≤ 9223372036854775807 := by have := hS1.len; unfold maxLen at this; omega
  have HN0 : Hid _ := hn0
  have HN1 : Hid _ := hn1
  have HS0 : Hid _ := hS0
  have HS1 : Hid _ := hS1
  have HK : Hid _ := hm
  have HI : Hid _ := hI
  have HKS : Hid _ := hks
  clear hn0 hn1 hS0 hS1 hm hI hks
  go_enter Try.func4, Try.ntmps4
  go_wp2_with fail
  refine (examples_val _).mono ?_
  rintro e w1 ⟨rfl, bb1⟩
  go_wp2_with fail
  refine (one_new bb1 400000 400000 (by omega) (by omega)).mono ?_
  rintro e w2 ⟨pd, rfl, h2⟩
  have H2 : Hid _ := h2
  clear bb1 h2
  go_wp2
  go_loopw [9, 11] (fun va vi wr => ∃ (k : Nat) (A : ByteArray), k ≤ n0 ∧ k ≤ 10 ∧ vi = .int .i64 k ∧ va = .string A ∧ A.size ≤ 1000 * k ∧ One w wr pd ⟨400000, 0, false, stF (decide (0 < k)) A.data.toList 0⟩) (fun _ vi _ => 10 - (intOf vi).toNat)
  case atStart => exact ⟨0, ⟨#[]⟩, by omega, by omega, rfl, rfl, by decide, H2.out⟩
  case round =>
    obtain ⟨k, A, hkn, hk10, rfl, rfl, hAs, hO⟩ := hrel
    have hpn : decide (0 < k) = false → A.data.toList = [] := fun h => by
      have h0 : k = 0 := by simpa using h
      subst h0
      exact List.length_eq_zero_iff.1 (by rw [ba_len]; omega)
    have HPN : Hid _ := hpn
    clear hpn
    by_cases hlt : k < n0 ∧ k < 10
    · obtain ⟨hlt0, hlt1⟩ := hlt
      have hk0 : k < ss0.length := by rw [HN0.out]; exact hlt0
      obtain rfl := HS0.out.addr (by omega)
      obtain ⟨s, hs⟩ : ∃ s, ss0[k] = s := ⟨_, rfl⟩
      have hc1 := Strs.at HS0.out hO.bel k hk0 s hs
      have hsm : s.size ≤ 9223372036854775807 := by have := HS0.out.small s (hs ▸ List.getElem_mem hk0); unfold maxLen at this; omega
      obtain ⟨M, hM, hMs, hM1⟩ : ∃ M : Nat, min (s.size : Int) 1000 = (M : Int) ∧ M ≤ s.size ∧ M ≤ 1000 := ⟨min s.size 1000, by omega, by omega, by omega⟩
      obtain ⟨X, hX⟩ : ∃ X, s.extract 0 M = X := ⟨_, rfl⟩
      have hXz : X.size = M := by rw [← hX]; exact cut_size s M hMs
      obtain ⟨A2, hA2⟩ : ∃ A2, A ++ X = A2 := ⟨_, rfl⟩
      have ha : ∀ w : World, (Op.stringOp .add A X).run Try.prog w = .ok (.string A2) w := fun w => by
        rw [← hA2]; exact run_string_add_sum (P := Try.prog) w A X (by omega)
      have HA2 : Hid (A2.data.toList = A.data.toList ++ X.data.toList ∧ A2.size ≤ 1000 * (k + 1)) := by
        refine ⟨by rw [← hA2]; exact ba_app A X, ?_⟩
        rw [← hA2, app_size]; omega
      have HX : Hid (X.size ≤ 140737488355328) := by show X.size ≤ _; omega
      have HR : Hid (refA ⟨400000, 0, false, stF (decide (0 < k)) A.data.toList 0⟩ [102] X.data.toList = 0) := stF_ref _ _ _ _ (by rw [ba_len, ba_len]; omega)
      have HO : Hid _ := hO
      clear hO hA2 hs hk0
      go_wp2
      go_region
      all_goals
        go_wp2_with fail
        refine (ok_append (HO.out.below ((Below.refl _ _).drew)) ⟨#[102]⟩ X (by decide) HX.out HR.out (stF_app _ _ _ _ (fun h => ⟨HPN.out h, rfl⟩))).mono ?_
        rintro e w3 ⟨rfl, h3⟩
        have H3 : Hid _ := h3
        clear h3
        go_wp2
        go_roundw
        case rel => exact ⟨k + 1, A2, by omega, by omega, by go_num, rfl, HA2.out.2, by rw [HA2.out.1, show decide (0 < k + 1) = true from decide_eq_true (by omega)]; exact H3.out⟩
        case measure => simp [intOf]; omega
    · have HO : Hid _ := hO
      have hA4 : A.size ≤ 10000 := by omega
      have HE : Hid (A.data.toList = [] → A.toList.isEmpty = true) := fun h => by rw [ByteArray.toList_eq, h]; rfl
      clear hO
      have hcase : (n0 = 0 ∧ k = 0) ∨ (0 < n0 ∧ k = n0 ∧ n0 ≤ 10) ∨ (0 < n0 ∧ k = 10 ∧ 10 < n0) := by omega
      rename World => wo
      rcases hcase with ⟨c1, c2⟩ | ⟨c1, c2, c3⟩ | ⟨c1, c2, c3⟩
      case' inl =>
        have H5 : Hid (∃ p : Bool, (p = false → A.data.toList = []) ∧ One w wo pd ⟨400000, 0, false, stF p A.data.toList A.data.toList.length⟩) := by
          subst c2
          have e := HPN.out rfl
          refine ⟨false, fun _ => e, ?_⟩
          have := HO.out
          rw [e] at this ⊢
          exact this
        clear HO HPN
        have c1' : n0 ≤ 0 := by omega
        have hnk : n0 ≤ k := by omega
        clear c1 c2 hlt
        go_wp2
      case' inr.inl =>
        have hO := HO.out
        rw [show decide (0 < k) = true from decide_eq_true (by omega)] at hO
        clear HO HPN
        have C1 : Hid _ := fun (_ : Unit) => ok_sync hO ⟨#[102]⟩ (by decide) (A.data.toList, 0) rfl (S' := stF true A.data.toList A.data.toList.length) rfl
        clear hO
        subst c2
        go_wp2_with fail
        refine (C1.out ()).mono ?_
        rintro e w5 ⟨rfl, h5⟩
        have H5 : Hid (∃ p : Bool, (p = false → A.data.toList = []) ∧ One w w5 pd ⟨400000, 0, false, stF p A.data.toList A.data.toList.length⟩) := ⟨true, ⟨fun h => Bool.noConfusion h, h5⟩⟩
        clear C1 h5
        go_wp2
      case' inr.inr =>
        have hO := HO.out
        rw [show decide (0 < k) = true from decide_eq_true (by omega)] at hO
        clear HO HPN
        have C1 : Hid _ := fun (_ : Unit) => ok_sync hO ⟨#[102]⟩ (by decide) (A.data.toList, 0) rfl (S' := stF true A.data.toList A.data.toList.length) rfl
        clear hO
        have hk10' : 10 ≤ k := by omega
        clear c2 hlt
        go_wp2_with fail
        refine (C1.out ()).mono ?_
        rintro e w5 ⟨rfl, h5⟩
        have H5 : Hid (∃ p : Bool, (p = false → A.data.toList = []) ∧ One w w5 pd ⟨400000, 0, false, stF p A.data.toList A.data.toList.length⟩) := ⟨true, ⟨fun h => Bool.noConfusion h, h5⟩⟩
        clear C1 h5
        go_wp2
      all_goals
        obtain ⟨p, hp, h5⟩ := H5.out
        have H6 : Hid _ := h5
        have HP : Hid (p = false → A.data.toList = []) := hp
        clear H5 hp h5
        go_loopw [10, 13] (fun vb vi wr => ∃ (j : Nat) (B : ByteArray), j ≤ n1 ∧ j ≤ 10 ∧ vi = .int .i64 j ∧ vb = .string B ∧ B.size ≤ 1000 * j ∧ One w wr pd ⟨400000, 0, false, stF (p || decide (0 < j)) (A.data.toList ++ B.data.toList) A.data.toList.length⟩) (fun _ vi _ => 10 - (intOf vi).toNat)
        case atStart => exact ⟨0, ⟨#[]⟩, by omega, by omega, rfl, rfl, by decide, by have := H6.out; rw [show (p || decide (0 < 0)) = p by cases p <;> rfl, show A.data.toList ++ (⟨#[]⟩ : ByteArray).data.toList = A.data.toList from List.append_nil _]; exact this⟩
        case round =>
          obtain ⟨j, B, hjn, hj10, rfl, rfl, hBs, hO⟩ := hrel
          have hpn : (p || decide (0 < j)) = false → A.data.toList = [] ∧ B.data.toList = [] := fun h => by
            rw [Bool.or_eq_false_iff] at h
            have h0 : j = 0 := by simpa using h.2
            subst h0
            exact ⟨HP.out h.1, List.length_eq_zero_iff.1 (by rw [ba_len]; omega)⟩
          have HPN : Hid _ := hpn
          clear hpn
          by_cases hlt : j < n1 ∧ j < 10
          · obtain ⟨hlt0, hlt1⟩ := hlt
            have hj0 : j < ss1.length := by rw [HN1.out]; exact hlt0
            obtain rfl := HS1.out.addr (by omega)
            obtain ⟨s, hs⟩ : ∃ s, ss1[j] = s := ⟨_, rfl⟩
            have hc1 := Strs.at HS1.out hO.bel j hj0 s hs
            have hsm : s.size ≤ 9223372036854775807 := by have := HS1.out.small s (hs ▸ List.getElem_mem hj0); unfold maxLen at this; omega
            obtain ⟨M, hM, hMs, hM1⟩ : ∃ M : Nat, min (s.size : Int) 1000 = (M : Int) ∧ M ≤ s.size ∧ M ≤ 1000 := ⟨min s.size 1000, by omega, by omega, by omega⟩
            obtain ⟨X, hX⟩ : ∃ X, s.extract 0 M = X := ⟨_, rfl⟩
            have hXz : X.size = M := by rw [← hX]; exact cut_size s M hMs
            obtain ⟨B2, hB2⟩ : ∃ B2, B ++ X = B2 := ⟨_, rfl⟩
            have ha : ∀ w : World, (Op.stringOp .add B X).run Try.prog w = .ok (.string B2) w := fun w => by
              rw [← hB2]; exact run_string_add_sum (P := Try.prog) w B X (by omega)
            have HB2 : Hid (B2.data.toList = B.data.toList ++ X.data.toList ∧ B2.size ≤ 1000 * (j + 1)) := by
              refine ⟨by rw [← hB2]; exact ba_app B X, ?_⟩
              rw [← hB2, app_size]; omega
            have HX : Hid (X.size ≤ 140737488355328) := by show X.size ≤ _; omega
            have HR : Hid (refA ⟨400000, 0, false, stF (p || decide (0 < j)) (A.data.toList ++ B.data.toList) A.data.toList.length⟩ [102] X.data.toList = 0) := stF_ref _ _ _ _ (by rw [List.length_append, ba_len, ba_len, ba_len]; omega)
            have HO : Hid _ := hO
            clear hO hB2 hs hj0
            go_wp2
            go_region
            all_goals
              go_wp2_with fail
              refine (ok_append (HO.out.below ((Below.refl _ _).drew)) ⟨#[102]⟩ X (by decide) HX.out HR.out (stF_app _ _ _ _ (fun h => by obtain ⟨e1, e2⟩ := HPN.out h; rw [e1, e2]; exact ⟨rfl, rfl⟩))).mono ?_
              rintro e w7 ⟨rfl, h7⟩
              have H7 : Hid _ := h7
              clear h7
              go_wp2
              go_roundw
              case rel => exact ⟨j + 1, B2, by omega, by omega, by go_num, rfl, HB2.out.2, by rw [HB2.out.1, show (p || decide (0 < j + 1)) = true by simp, ← List.append_assoc]; exact H7.out⟩
              case measure => simp [intOf]; omega
          · have hB4 : B.size ≤ 10000 := by omega
            have hex : j = n1 ∨ (j < n1 ∧ j = 10) := by omega
            have C2 : Hid _ := fun (_ : Unit) => ok_crash hO ka kb koff kcap m ks HK.out hmx HI.out HKS.out rfl
            have hcr := stF_crash ks A.data.toList B.data.toList (p || decide (0 < j)) HPN.out
            clear hO
            rcases hcr with ⟨e1, e2⟩ | ⟨n, hn, e1⟩
            · rw [e1] at C2
              have hAe := HE.out e2
              have C3 : Hid (∀ w', One w w' pd ⟨400000, 0, false, []⟩ → _) := fun w' h' => no_read h' ⟨#[102]⟩ (by decide) rfl
              clear HPN
              rcases hex with c5 | ⟨c4, c5⟩
              case' inl => subst c5
              case' inr => have hj10' : 10 ≤ j := by omega
              case' inr => clear c5 hlt
              all_goals
                go_wp2_with fail
                refine (C2.out ()).mono ?_
                rintro e w8 ⟨rfl, h8⟩
                go_wp2_with fail
                refine (C3.out _ h8).mono ?_
                rintro e w9 ⟨rfl, h9⟩
                clear h8
                go_wp2
                go_ret
                exact ⟨rfl, h9.bel⟩
            · rw [e1] at C2
              have hnB : n ≤ B.size := by rw [← ba_len]; exact hn
              obtain ⟨Bn, hBn⟩ : ∃ Bn, B.extract 0 n = Bn := ⟨_, rfl⟩
              have hBz : Bn.size = n := by rw [← hBn]; exact cut_size B n hnB
              obtain ⟨T, hT⟩ : ∃ T, A ++ Bn = T := ⟨_, rfl⟩
              have hTz : T.size = A.size + n := by rw [← hT, app_size, hBz]
              have ha : ∀ w : World, (Op.stringOp .add A Bn).run Try.prog w = .ok (.string T) w := fun w => by
                rw [← hT]; exact run_string_add_sum (P := Try.prog) w A Bn (by omega)
              have hTl : T.data.toList = A.data.toList ++ B.data.toList.take n := by rw [← hT, ba_app, ← hBn, ba_ext]
              have hnum : (T.size : Int) - (A.size : Int) = (n : Int) := by omega
              have C3 : Hid (∀ w', One w w' pd ⟨400000, 0, false, [([102], A.data.toList ++ B.data.toList.take n, A.data.toList.length + n)]⟩ → _) := fun w' h' => ok_read h' ⟨#[102]⟩ (by decide) T (A.data.toList.length + n) (by rw [hTl]; rfl)
              have C4 : Hid (∀ w', One w w' pd ⟨400000, 0, false, [([102], A.data.toList ++ B.data.toList.take n, A.data.toList.length + n)]⟩ → _) := fun w' h' => ok_used h' T.size (by rw [tot_cons, tot_nil, ← ba_len T, hTl]; rfl)
              clear HPN hT hTl
              rcases hex with c5 | ⟨c4, c5⟩
              case' inl => subst c5
              case' inr => have hj10' : 10 ≤ j := by omega
              case' inr => clear c5 hlt
              all_goals
                go_wp2_with fail
                refine (C2.out ()).mono ?_
                rintro e w8 ⟨rfl, h8⟩
                go_wp2_with fail
                refine (C3.out _ h8).mono ?_
                rintro e w9 ⟨rfl, h9⟩
                clear h8
                go_wp2_with fail
                refine (C4.out _ h9).mono ?_
                rintro e w10 ⟨rfl, h10⟩
                clear h9
                go_wp2
                go_ret
                exact ⟨rfl, h10.bel⟩

theorem walk (a0 : Option Addr) (b0 off0 cap0 : Nat) (ss0 : List ByteArray) (a1 : Option Addr) (b1 off1 cap1 : Nat) (ss1 : List ByteArray) (a2 : Option Addr) (b2 off2 cap2 : Nat) (ss2 : List Int) (w : World) (w0 : Strs w a0 b0 off0 ss0) (w1 : Strs w a1 b1 off1 ss1) (w2 : Ints w .i64 a2 b2 off2 ss2 ∧ ss2.length ≤ maxLen ∧ ∀ n ∈ ss2, (Lit.int .i64 n).wf = true) :
    Calls Try.prog 4 #[.slice a0 ss0.length cap0, .slice a1 ss1.length cap1, .slice a2 ss2.length cap2] w fun e w' => e = .returned (.bool true) ∧ Below w.heap.size w w' :=
  walk_b a0 b0 off0 cap0 _ ss0 a1 b1 off1 cap1 _ ss1 a2 b2 off2 cap2 _ ss2 w rfl w0 rfl w1 rfl w2.2.1 w2.1 (fun k hk => bounds_i64 (w2.2.2 k hk))

set_option maxRecDepth 100000 in
theorem lifted (os : Os) (started : os.Started) (H : Type) (enc : TypeId × Value → H) :
    ReturnsInHanded {} Try.checked os 4 .any (Rows.diskLastsSpec.pre6 enc Try.prog Try.f4 Rows.diskLastsRow.domain false) (Rows.diskLastsSpec.post enc Try.prog Try.f4 false true false false) := by
  refine returnsInHanded_of_change (C := Try.checked) own started (by kernel_rfl) Try.func4
    (ChangeSpec.witness6 (enc := enc) (C := Try.checked) false ⟨#[], #[.slice none 0 0, .slice none 0 0, .slice none 0 0], []⟩ 8 (by kernel_rfl) (by kernel_rfl) (by kernel_rfl) (by kernel_rfl)) ?_
  intro W base args ds gs before hval0 hW hcnd _
  have hval : ∀ (j : Nat) t v, Try.f4.params[j]? = some t → args[j]? = some v → Value.okWide Try.prog W .any base t v := hval0
  have hW' := hW
  obtain ⟨p, q, hA0, hV, rfl, hfz, hnd⟩ := hW
  have hA : DataW.TrodAll enc Try.prog W 0 (fun _ => true) true Try.f4.params.toList args.toList ds p := hA0
  rw [Try.params4] at hA hval
  obtain ⟨v0, vs0, d0, ds0, p0, q0, hargs, rfl, rfl, h0, r0⟩ := trodAll_cons hA
  obtain ⟨v1, vs1, d1, ds1, p1, q1, rfl, rfl, rfl, h1, r1⟩ := trodAll_cons r0
  obtain ⟨v2, vs2, d2, ds2, p2, q2, rfl, rfl, rfl, h2, r2⟩ := trodAll_cons r1
  obtain ⟨rfl, rfl, rfl⟩ := trodAll_nil r2
  obtain rfl : args = #[v0, v1, v2] := by cases args; simp_all
  obtain ⟨rfl, rfl⟩ := trodVars_none hV
  obtain ⟨a0, len0, cap0, rfl⟩ := okWide_slice Try.underlying33 (hval 0 33 v0 rfl rfl)
  have k0 := h0
  have lt0 : ∀ x ∈ p0, x.block < W.heap.size := by obtain ⟨m, hm⟩ := k0; exact DataW.trod_lt m _ _ _ hm
  obtain ⟨b0, off0, ss0, rfl, w0⟩ := open_strs Try.underlying33 Try.underlying9 (by kernel_rfl) h0
  obtain ⟨a1, len1, cap1, rfl⟩ := okWide_slice Try.underlying33 (hval 1 33 v1 rfl rfl)
  have k1 := h1
  have lt1 : ∀ x ∈ p1, x.block < W.heap.size := by obtain ⟨m, hm⟩ := k1; exact DataW.trod_lt m _ _ _ hm
  obtain ⟨b1, off1, ss1, rfl, w1⟩ := open_strs Try.underlying33 Try.underlying9 (by kernel_rfl) h1
  obtain ⟨a2, len2, cap2, rfl⟩ := okWide_slice Try.underlying29 (hval 2 29 v2 rfl rfl)
  have k2 := h2
  have lt2 : ∀ x ∈ p2, x.block < W.heap.size := by obtain ⟨m, hm⟩ := k2; exact DataW.trod_lt m _ _ _ hm
  obtain ⟨b2, off2, ss2, rfl, w2⟩ := open_nums Try.underlying29 Try.underlying3 (by kernel_rfl) h2
  clear hA0 hval0
  refine (walk a0 b0 off0 cap0 ss0 a1 b1 off1 cap1 ss1 a2 b2 off2 cap2 ss2 W w0 w1 w2).mono fun e W' ⟨he, bel⟩ => ?_
  subst he
  exact ⟨_, rfl, _, _, _, [], _, [], hW', trodAll_mk1 (shut_bool Try.underlying4 _), (trodAll_cons_mk (Below.trod laidOut (by kernel_rfl) (of_decide_eq_true (by kernel_rfl)) k0 bel lt0) (trodAll_cons_mk (Below.trod laidOut (by kernel_rfl) (of_decide_eq_true (by kernel_rfl)) k1 bel lt1) (trodAll_cons_mk (Below.trod laidOut (by kernel_rfl) (of_decide_eq_true (by kernel_rfl)) k2 bel lt2) trodAll_mk0))), rfl, bel.frame _, fun h => by cases h⟩

theorem over : Rows.diskLastsRow.holds Try.pinned (OpenSpec.ofChange Rows.diskLastsSpec) :=
  OpenClaim.holds_of_wide 4 Try.f4 rfl rfl rfl rfl rfl rfl rfl ⟨rfl, rfl, rfl, rfl, rfl⟩ rfl rfl rfl rfl rfl (by kernel_rfl) Try.func4 (by kernel_rfl)
    (of_decide_eq_true (by kernel_rfl)) (by unfold Func.isWrapper; first | (rw [if_pos (by decide +kernel)]; kernel_rfl) | (rw [if_neg (by decide +kernel)]; exact ⟨rfl, rfl⟩))
    (fun os started H enc _ => lifted os started H enc)
end Go.Proofs.Ytlgfhmedenlbcaa.diskLasts

namespace Go.Proofs.Ytlgfhmedenlbcaa
/-- The statement. -/
theorem diskLasts_holds : Rows.DiskLastsSaid := diskLasts.over
#print axioms diskLasts_holds
end Go.Proofs.Ytlgfhmedenlbcaa
