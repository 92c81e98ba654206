/- The contract of tabulariumref09.Renew. -/
import Derived.Test.YtflccniidaogiaaLeaseR2
import Derived.Test.YtflccniidaogiaaLeaseF7
namespace Go.Proofs.Ytflccniidaogiaa.Lea
open Go.RowKit Go.Proofs.Ytflccniidaogiaa

/-- What is there when i of them have been seen: x is put at K. -/
def outL (rs : LS) (K : Nat) (x : Ls) (i : Nat) : LS := if i ≤ K then rs.take i else rs.take K ++ [x] ++ (rs.take i).drop K

theorem out_zero (rs : LS) (K : Nat) (x : Ls) : outL rs K x 0 = [] := by unfold outL; simp
theorem out_lo {rs : LS} {K : Nat} {x : Ls} {i : Nat} (hi : i < rs.length) (h : i < K) : outL rs K x (i + 1) = outL rs K x i ++ [rs[i]] := by
  unfold outL
  rw [if_pos (by omega), if_pos (by omega), List.take_succ_eq_append_getElem hi]
theorem out_here {rs : LS} {x : Ls} {i : Nat} (hi : i < rs.length) : outL rs i x (i + 1) = outL rs i x i ++ [x] ++ [rs[i]] := by
  unfold outL
  rw [if_neg (by omega), if_pos (Nat.le_refl _), List.take_succ_eq_append_getElem hi, List.drop_append, List.drop_of_length_le (by rw [List.length_take]; omega)]
  congr 1
  rw [List.length_take, Nat.min_eq_left (by omega), Nat.sub_self, List.nil_append]
  rfl
theorem out_end {rs : LS} {x : Ls} {i : Nat} (hi : rs.length = i) : outL rs i x (i + 1) = outL rs i x i ++ [x] := by
  unfold outL
  rw [if_neg (by omega), if_pos (Nat.le_refl _), List.drop_of_length_le (by rw [List.length_take]; omega), List.append_nil]
theorem out_hi {rs : LS} {K : Nat} {x : Ls} {i : Nat} (hi : i < rs.length) (h : K < i) : outL rs K x (i + 1) = outL rs K x i ++ [rs[i]] := by
  unfold outL
  rw [if_neg (by omega), if_neg (by omega), List.take_succ_eq_append_getElem hi, List.drop_append_of_le_length (by rw [List.length_take]; omega), ← List.append_assoc]
theorem out_stay {rs : LS} {K : Nat} {x : Ls} {i : Nat} (hi : rs.length = i) (h : K < i) : outL rs K x (i + 1) = outL rs K x i := by
  unfold outL
  have e1 : rs.take (i + 1) = rs := List.take_of_length_le (by omega)
  have e2 : rs.take i = rs := List.take_of_length_le (by omega)
  rw [if_neg (by omega), if_neg (by omega), e1, e2]
theorem out_all {rs : LS} {K : Nat} {x : Ls} {d : Nat} (hd : rs.length = d) (hK : K ≤ d) : outL rs K x (d + 1) = rs.take K ++ [x] ++ rs.drop K := by
  unfold outL
  have e1 : rs.take (d + 1) = rs := List.take_of_length_le (by omega)
  rw [if_neg (by omega), e1]
theorem out_len {rs : LS} {K : Nat} {x : Ls} (i : Nat) : (outL rs K x i).length ≤ rs.length + 1 := by
  unfold outL
  split
  · rw [List.length_take]; omega
  · rw [List.length_append, List.length_append, List.length_drop, List.length_take, List.length_take, List.length_singleton]; omega

set_option maxRecDepth 100000 in
set_option maxHeartbeats 4000000 in
theorem refRenew_val {a : Option Addr} {n c : Nat} {xs : LS} {w : World} (h : LL w a n c xs) (k now : Int) (ys : LS) (v : Bool) (m : Nat) (hv : renX xs k now = (ys, v)) (hm : ys.length = m) :
    Calls Try.prog 16 #[.slice a n c, .int .i64 k, .int .i64 now] w fun e w' => LsR w.heap.size ys m (.bool v) e w' ∧ Below w.heap.size w w' := by
  have HC : Hid (LL w a n c xs) := h
  have HN : Hid (xs.length = n) := h.len
  by_cases hg : Rt xs ∧ (0 ≤ k ∧ k < 4) ∧ 0 ≤ now ∧ now ≤ 9007199254740981
  · obtain ⟨hr, hk, hn1, hn2⟩ := hg
    have HR : Hid (true = true ↔ Rt xs) := ⟨fun _ => hr, fun _ => rfl⟩
    obtain ⟨ti, hi1, hi2, hi3, hi4⟩ := lsRow
    have hn4 : n ≤ 4 := by rw [← HN.out]; exact hr.few
    rw [renX_yes hr hk hn1 hn2] at hv
    simp only [Prod.mk.injEq] at hv
    obtain ⟨hy, rfl⟩ := hv
    obtain ⟨u, b, hu⟩ : ∃ u b, findX xs k = (u, b) := ⟨_, _, rfl⟩
    rw [hu] at hy
    simp only at hy
    obtain ⟨M, hM⟩ : ∃ M, max u (now + 10) = M := ⟨_, rfl⟩
    rw [hM] at hy
    obtain ⟨rs, hrs⟩ : ∃ rs, dropL k xs = rs := ⟨_, rfl⟩
    obtain ⟨d, hd⟩ : ∃ d, rs.length = d := ⟨_, rfl⟩
    have hd4 : d ≤ 4 := by have := drop_len k xs; rw [hrs, hd, HN.out] at this; omega
    have hrp : rs.Pairwise (fun x y => x.c < y.c) := by rw [← hrs]; exact (hr.filter _).up
    have hne : ∀ j (hj : j < rs.length), rs[j].c ≠ k := fun j hj => by
      have : rs[j] ∈ dropL k xs := by rw [hrs]; exact List.getElem_mem hj
      have := (List.mem_filter.1 this).2
      simpa using this
    obtain ⟨K, hK⟩ := isAt_ex hrp k
    have hKd : K ≤ d := by rw [← hd]; exact hK.le
    have hy2 : rs.take K ++ [(⟨k, M⟩ : Ls)] ++ rs.drop K = ys := by
      have h1 := put_is hrp (x := ⟨k, M⟩) hK
      have h2 : putL (dropL k xs) ⟨k, M⟩ = putL xs ⟨k, M⟩ := put_drop (x := ⟨k, M⟩)
      rw [hrs] at h2
      rw [if_neg (fun ⟨h, e⟩ => hne K h e), h2, hy] at h1
      exact h1.symm
    have CU : Hid (∀ W, Below w.heap.size w W → Calls Try.prog 9 #[.slice a n c, .int .i64 k] W fun e w' => e = .returned (.tuple #[.int .i64 u, .bool b]) ∧ Below W.heap.size W w') := fun W hb => refUntil_val (h.below hb) k u b ((untilX_yes hr).trans hu)
    have CW : Hid (∀ W, Below w.heap.size w W → Calls Try.prog 23 #[.slice a n c, .int .i64 k] W fun e w' => LsR1 W.heap.size rs d e w' ∧ Below W.heap.size W w') := fun W hb => without_val (h.below hb) hn4 k rs d hrs hd
    have HD : Hid (rs.length = d) := hd
    have HLO : Hid (∀ j (hj : j < rs.length), j < K → rs[j].c < k) := fun j hj hjk => hK.lo j hj hjk
    have HHI : Hid (∀ j (hj : j < rs.length), K ≤ j → k < rs[j].c) := fun j hj hjk => by have := hK.hi j hj hjk; have := hne j hj; show k < rs[j].c; omega
    have HY : Hid (rs.take K ++ [(⟨k, M⟩ : Ls)] ++ rs.drop K = ys) := hy2
    have HM : Hid (ys.length = m) := hm
    have hk1 : decide (k < 0) = false := decide_eq_false (by omega)
    have hk2 : decide (4 ≤ k) = false := decide_eq_false (by omega)
    have hw1 : decide (now < 0) = false := decide_eq_false (by omega)
    have hw2 : decide (9007199254740981 < now) = false := decide_eq_false (by omega)
    clear h hr hk hy hu hm hrs hd hrp hne hK hy2
    go_enter Try.func16, Try.ntmps16
    go_wp2_with (first
      | (go_at_call 14; refine (refRight_val HC.out true HR.out).mono ?_; rintro e w1 ⟨rfl, c1⟩; have B1 : Hid (Below w.heap.size w w1) := c1; clear c1)
      | (go_at_call 9; refine (CU.out _ B1.out).mono ?_; rintro e w2 ⟨rfl, c2⟩; have B2 : Hid (Below w.heap.size w w2) := bel_tr B1.out c2; clear c2)
      | (go_at_call 23; refine (CW.out _ B2.out).mono ?_; rintro e w3 ⟨⟨a3, c3, g3, rfl, hO⟩, c3b⟩; have L3 : Hid (LL w3 a3 d c3 rs) := hO.ll; have B3 : Hid (Below w.heap.size w w3) := bel_tr B2.out c3b; clear hO c3b))
    have hst2 : Hid (outL rs K ⟨k, M⟩ 0 = []) := out_zero _ _ _
    go_loopw [11, 12, 14] (fun v11 v12 v14 wr => ∃ (i : Nat) (fa : Option Addr) (fn fc : Nat) (g : Option Nat), i ≤ d + 1 ∧ v14 = .int .i64 i ∧ v12 = .bool (decide (K < i)) ∧ v11 = .slice fa fn fc ∧ LO w3.heap.size wr fa fn fc (outL rs K ⟨k, M⟩ i) g ∧ Below w3.heap.size w3 wr) (fun _ _ v14 _ => d + 1 - (intOf v14).toNat)
    case atStart => exact ⟨0, none, 0, 0, none, by omega, rfl, by simp, rfl, by rw [hst2.out]; exact LO.none _ _, Below.refl _ _⟩
    case round =>
      obtain ⟨i, fa, fn, fc, g, hi, rfl, rfl, rfl, hO, hb⟩ := hrel
      have HB : Hid (Below w3.heap.size w3 wr) := hb
      have HO : Hid (LO w3.heap.size wr fa fn fc (outL rs K ⟨k, M⟩ i) g) := hO
      have hfn : fn ≤ 5 := by
        have h1 := hO.len
        have h2 := out_len (rs := rs) (K := K) (x := ⟨k, M⟩) i
        rw [HD.out] at h2
        omega
      clear hO
      by_cases hle : i ≤ d
      · by_cases hid : i < d
        · have hix : i < rs.length := by rw [HD.out]; exact hid
          obtain ⟨b3, off3, rfl, hat⟩ := (L3.out.below hb).at (by omega)
          obtain ⟨e0, e1⟩ := hat i hix
          have hne : ((i : Int) == (d : Int)) = false := by simp; omega
          clear hb hat
          by_cases hiK : i < K
          · have HX : Hid (outL rs K ⟨k, M⟩ (i + 1) = outL rs K ⟨k, M⟩ i ++ [rs[i]]) := out_lo hix hiK
            have hp : decide (K < i) = false := decide_eq_false (by omega)
            have HP : Hid (decide (K < i + 1) = false) := decide_eq_false (by omega)
            have hg : decide (k < rs[i].c) = false := decide_eq_false (by have := HLO.out i hix hiK; omega)
            generalize rs[i] = x at *
            obtain ⟨cc, uu⟩ := x
            simp only at e0 e1 hg
            clear hix hiK
            go_wp2_with (at_builtin; refine wpList_append_cel _ rfl _ _ 22 22 rfl 41 ti _ 2 16 Try.underlying22 hi1 hi2 hi3 hi4 rfl (O := fun k => w3.heap.size ≤ k) _ fn _ g rfl (HO.out.below (bel_al _ _)).cel _ 1 (rowC lsC [(⟨cc, uu⟩ : Ls)]) rfl (src_ls wr (⟨cc, uu⟩ : Ls)) (by unfold maxLen; omega) (by omega) ?_; intro a4 c4 w4 g4 hC4 hS4 hg4; have A4 : Hid _ := (HO.out.below (bel_al _ _)).app (ys := [(⟨cc, uu⟩ : Ls)]) rfl hC4 (by have := HB.out.size; simp; omega); have B4 : Hid (Below w3.heap.size w3 w4) := (HB.out.trans ((bel_al _ _).mono HB.out.size)).trans ((HO.out.below (bel_al _ _)).appBelow hS4 (by have := HB.out.size; simp; omega)); clear hC4 hS4 hg4)
            go_roundw
            case rel => exact ⟨i + 1, a4, fn + 1, c4, g4, by omega, by go_num, by rw [HP.out], rfl, by rw [HX.out]; exact A4.out, B4.out⟩
            case measure => simp [intOf] <;> omega
          · by_cases hiK2 : i = K
            · subst hiK2
              have HX : Hid (outL rs i ⟨k, M⟩ (i + 1) = outL rs i ⟨k, M⟩ i ++ [⟨k, M⟩] ++ [rs[i]]) := out_here hix
              have hp : decide (i < i) = false := decide_eq_false (by omega)
              have HP : Hid (true = decide (i < i + 1)) := by show _ = _; simp
              have hg : decide (k < rs[i].c) = true := decide_eq_true (HHI.out i hix (Nat.le_refl _))
              have FW : Hid (∀ W, Below w3.heap.size w3 W → W.cell? ⟨b3, off3 + i * 2, none⟩ = some (.int .i64 rs[i].c) ∧ W.cell? ⟨b3, off3 + i * 2 + 1, none⟩ = some (.int .i64 rs[i].u)) := fun W hW => by
                obtain ⟨b4, off4, he, hq⟩ := (L3.out.below hW).at (by omega)
                cases he
                exact hq i hix
              generalize rs[i] = x at *
              obtain ⟨cc, uu⟩ := x
              simp only at e0 e1 hg FW
              clear hix hiK
              have MX : Hid True := trivial
              go_wp2_with (first
                | (at_builtin; have mm := MX.out; refine wpList_append_cel _ rfl _ _ 22 22 rfl 41 ti _ 2 16 Try.underlying22 hi1 hi2 hi3 hi4 rfl (O := fun k => w3.heap.size ≤ k) _ fn _ g rfl (HO.out.below (bel_al _ _)).cel _ 1 (rowC lsC [(⟨k, M⟩ : Ls)]) rfl (src_ls wr (⟨k, M⟩ : Ls)) (by unfold maxLen; omega) (by omega) ?_; intro a4 c4 w4 g4 hC4 hS4 hg4; have A4 : Hid _ := (HO.out.below (bel_al _ _)).app (ys := [(⟨k, M⟩ : Ls)]) rfl hC4 (by have := HB.out.size; simp; omega); have B4 : Hid (Below w3.heap.size w3 w4) := (HB.out.trans ((bel_al _ _).mono HB.out.size)).trans ((HO.out.below (bel_al _ _)).appBelow hS4 (by have := HB.out.size; simp; omega)); obtain ⟨f0, f1⟩ := FW.out w4 B4.out; clear hC4 hS4 hg4 mm MX)
                | (at_builtin; refine wpList_append_cel _ rfl _ _ 22 22 rfl 41 ti _ 2 16 Try.underlying22 hi1 hi2 hi3 hi4 rfl (O := fun k => w3.heap.size ≤ k) _ (fn + 1) _ g4 rfl (A4.out.below (bel_al _ _)).cel _ 1 (rowC lsC [(⟨cc, uu⟩ : Ls)]) rfl (src_ls w4 (⟨cc, uu⟩ : Ls)) (by unfold maxLen; omega) (by omega) ?_; intro a5 c5 w5 g5 hC5 hS5 hg5; have A5 : Hid _ := (A4.out.below (bel_al _ _)).app (ys := [(⟨cc, uu⟩ : Ls)]) rfl hC5 (by have := B4.out.size; simp; omega); have B5 : Hid (Below w3.heap.size w3 w5) := (B4.out.trans ((bel_al _ _).mono B4.out.size)).trans ((A4.out.below (bel_al _ _)).appBelow hS5 (by have := B4.out.size; simp; omega)); clear hC5 hS5 hg5))
              go_roundw
              case rel => exact ⟨i + 1, a5, fn + 1 + 1, c5, g5, by omega, by go_num, by rw [← HP.out], rfl, by rw [HX.out]; exact A5.out, B5.out⟩
              case measure => simp [intOf] <;> omega
            · have hKi : K < i := by omega
              have HX : Hid (outL rs K ⟨k, M⟩ (i + 1) = outL rs K ⟨k, M⟩ i ++ [rs[i]]) := out_hi hix hKi
              have hp : decide (K < i) = true := decide_eq_true hKi
              have HP : Hid (decide (K < i + 1) = true) := decide_eq_true (by omega)
              generalize rs[i] = x at *
              obtain ⟨cc, uu⟩ := x
              simp only at e0 e1
              clear hix hiK hiK2 hKi
              go_wp2_with (at_builtin; refine wpList_append_cel _ rfl _ _ 22 22 rfl 41 ti _ 2 16 Try.underlying22 hi1 hi2 hi3 hi4 rfl (O := fun k => w3.heap.size ≤ k) _ fn _ g rfl (HO.out.below (bel_al _ _)).cel _ 1 (rowC lsC [(⟨cc, uu⟩ : Ls)]) rfl (src_ls wr (⟨cc, uu⟩ : Ls)) (by unfold maxLen; omega) (by omega) ?_; intro a4 c4 w4 g4 hC4 hS4 hg4; have A4 : Hid _ := (HO.out.below (bel_al _ _)).app (ys := [(⟨cc, uu⟩ : Ls)]) rfl hC4 (by have := HB.out.size; simp; omega); have B4 : Hid (Below w3.heap.size w3 w4) := (HB.out.trans ((bel_al _ _).mono HB.out.size)).trans ((HO.out.below (bel_al _ _)).appBelow hS4 (by have := HB.out.size; simp; omega)); clear hC4 hS4 hg4)
              go_roundw
              case rel => exact ⟨i + 1, a4, fn + 1, c4, g4, by omega, by go_num, by rw [HP.out], rfl, by rw [HX.out]; exact A4.out, B4.out⟩
              case measure => simp [intOf] <;> omega
        · obtain rfl : i = d := by omega
          have hdd : decide ((i : Int) < (i : Int)) = false := decide_eq_false (by omega)
          clear hb hid
          by_cases hiK2 : i = K
          · subst hiK2
            have HX : Hid (outL rs i ⟨k, M⟩ (i + 1) = outL rs i ⟨k, M⟩ i ++ [⟨k, M⟩]) := out_end HD.out
            have hp : decide (i < i) = false := decide_eq_false (by omega)
            have HP : Hid (true = decide (i < i + 1)) := by show _ = _; simp
            go_wp2_with (at_builtin; refine wpList_append_cel _ rfl _ _ 22 22 rfl 41 ti _ 2 16 Try.underlying22 hi1 hi2 hi3 hi4 rfl (O := fun k => w3.heap.size ≤ k) _ fn _ g rfl (HO.out.below (bel_al _ _)).cel _ 1 (rowC lsC [(⟨k, M⟩ : Ls)]) rfl (src_ls wr (⟨k, M⟩ : Ls)) (by unfold maxLen; omega) (by omega) ?_; intro a4 c4 w4 g4 hC4 hS4 hg4; have A4 : Hid _ := (HO.out.below (bel_al _ _)).app (ys := [(⟨k, M⟩ : Ls)]) rfl hC4 (by have := HB.out.size; simp; omega); have B4 : Hid (Below w3.heap.size w3 w4) := (HB.out.trans ((bel_al _ _).mono HB.out.size)).trans ((HO.out.below (bel_al _ _)).appBelow hS4 (by have := HB.out.size; simp; omega)); clear hC4 hS4 hg4)
            go_roundw
            case rel => exact ⟨i + 1, a4, fn + 1, c4, g4, by omega, by go_num, by rw [← HP.out], rfl, by rw [HX.out]; exact A4.out, B4.out⟩
            case measure => simp [intOf] <;> omega
          · have hKi : K < i := by omega
            have HX : Hid (outL rs K ⟨k, M⟩ (i + 1) = outL rs K ⟨k, M⟩ i) := out_stay HD.out hKi
            have hp : decide (K < i) = true := decide_eq_true hKi
            have HP : Hid (decide (K < i + 1) = true) := decide_eq_true (by omega)
            clear hKi hiK2
            go_wp2
            go_roundw
            case rel => exact ⟨i + 1, fa, fn, fc, g, by omega, by go_num, by rw [HP.out, hp], rfl, by rw [HX.out]; exact HO.out, HB.out⟩
            case measure => simp [intOf] <;> omega
      · obtain rfl : i = d + 1 := by omega
        have hgd : decide (((d + 1 : Nat) : Int) ≤ (d : Int)) = false := decide_eq_false (by omega)
        have HO2 : Hid (LO w3.heap.size wr fa fn fc ys g) := by
          have := HO.out
          rw [out_all HD.out hKd, HY.out] at this
          exact this
        obtain rfl : fn = m := by rw [← HO2.out.len, HM.out]
        have hdl : ¬ d + 1 ≤ d := by omega
        clear hb hle HO
        go_wp2
        go_ret2
        exact ⟨⟨fa, fc, g, rfl, HO2.out.mono B3.out.size⟩, bel_tr B3.out HB.out⟩
  · rw [renX_no hg] at hv
    simp only [Prod.mk.injEq] at hv
    obtain ⟨rfl, rfl⟩ := hv
    subst hm
    by_cases hr : Rt xs
    · have HR : Hid (true = true ↔ Rt xs) := ⟨fun _ => hr, fun _ => rfl⟩
      cases hd1 : decide (k < 0) <;> cases hd2 : decide (4 ≤ k) <;> cases hd3 : decide (now < 0) <;> cases hd4 : decide (9007199254740981 < now)
      case false.false.false.false =>
        simp only [decide_eq_false_iff_not] at hd1 hd2 hd3 hd4
        exact absurd ⟨hr, ⟨by omega, by omega⟩, by omega, by omega⟩ hg
      all_goals
        clear h hr hg
        go_enter Try.func16, Try.ntmps16
        go_wp2_with (go_at_call 14; refine (refRight_val HC.out true HR.out).mono ?_; rintro e w1 ⟨rfl, c1⟩)
        go_ret2
        exact ⟨LsR.no _ rfl, c1⟩
    · have HR : Hid (false = true ↔ Rt xs) := ⟨fun e => (by cases e), fun e => absurd e hr⟩
      clear h hr hg
      go_enter Try.func16, Try.ntmps16
      go_wp2_with (go_at_call 14; refine (refRight_val HC.out false HR.out).mono ?_; rintro e w1 ⟨rfl, c1⟩)
      go_ret2
      exact ⟨LsR.no _ rfl, c1⟩

end Go.Proofs.Ytflccniidaogiaa.Lea
