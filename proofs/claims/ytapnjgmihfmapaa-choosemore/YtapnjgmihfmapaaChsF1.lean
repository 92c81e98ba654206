/- The contracts of choose.Most, better, Agree, the reference's, and law16.entries. -/
import Derived.Test.YtapnjgmihfmapaaChsM
import Derived.BigQuiet
import Derived.Lib.QuietBelow
import Derived.Lib.MinMax
namespace Go.Proofs.Ytapnjgmihfmapaa.Chs
open Go.RowKit Go.Proofs.Ytapnjgmihfmapaa Go.Proofs.Ytapnjgmihfmapaa.Lgg
set_option linter.unusedVariables false

theorem bytes_ne {a b : ByteArray} (h : ¬ a = b) : (a.toList == b.toList) = false := by
  rw [ByteArray.toList_eq, ByteArray.toList_eq, beq_eq_false_iff_ne]
  intro e
  apply h
  cases a; cases b
  simp at e
  rw [e]

def mostT (n : Int) : Int := if n < 1 then 0 else n / 2 + 1

set_option maxRecDepth 100000 in
theorem most_val (n : Int) (hn : -9223372036854775808 ≤ n ∧ n ≤ 9223372036854775807) (Q : Int) (hQ : mostT n = Q) (w : World) :
    Calls Try.prog 15 #[.int .i64 n] w fun e w' => e = .returned (.int .i64 Q) ∧ w' = w := by
  unfold mostT at hQ
  by_cases h1 : n < 1
  · rw [if_pos h1] at hQ
    subst hQ
    go_enter Try.func15, Try.ntmps15
    go_wp2
    go_ret
    exact ⟨rfl, rfl⟩
  · rw [if_neg h1] at hQ
    obtain ⟨m, rfl⟩ : ∃ m : Nat, n = (m : Int) := ⟨n.toNat, by omega⟩
    obtain ⟨q, hq⟩ : ∃ q, m / 2 = q := ⟨_, rfl⟩
    have hr1 : (m : Int).tdiv 2 = (q : Int) := by rw [Int.tdiv_eq_ediv_of_nonneg (by omega), ← hq]; rfl
    have hr2 : (m : Int) / 2 = (q : Int) := by rw [← hq]; rfl
    rw [hr2] at hQ
    subst hQ
    go_enter Try.func15, Try.ntmps15
    go_wp2
    go_ret
    exact ⟨rfl, rfl⟩

set_option maxRecDepth 100000 in
theorem refMost_val (n : Int) (hn : -9223372036854775808 ≤ n ∧ n ≤ 9223372036854775807) (Q : Int) (hQ : mostT n = Q) (w : World) :
    Calls Try.prog 16 #[.int .i64 n] w fun e w' => e = .returned (.int .i64 Q) ∧ w' = w := by
  unfold mostT at hQ
  by_cases h1 : n < 1
  · rw [if_pos h1] at hQ
    subst hQ
    go_enter Try.func16, Try.ntmps16
    go_wp2
    go_ret
    exact ⟨rfl, rfl⟩
  · rw [if_neg h1] at hQ
    obtain ⟨m, rfl⟩ : ∃ m : Nat, n = (m : Int) := ⟨n.toNat, by omega⟩
    obtain ⟨q, hq⟩ : ∃ q, m / 2 = q := ⟨_, rfl⟩
    have hr1 : (m : Int).tdiv 2 = (q : Int) := by rw [Int.tdiv_eq_ediv_of_nonneg (by omega), ← hq]; rfl
    have hr2 : (m : Int) / 2 = (q : Int) := by rw [← hq]; rfl
    rw [hr2] at hQ
    subst hQ
    go_enter Try.func16, Try.ntmps16
    go_wp2
    go_ret
    exact ⟨rfl, rfl⟩

set_option maxRecDepth 100000 in
set_option maxHeartbeats 1000000 in
theorem better_val (x y : Ls) (v : Bool) (hv : btr x y = v) (w : World) :
    Calls Try.prog 23 #[.agg #[.int .i64 x.ep, .slice x.a x.es.length x.c], .agg #[.int .i64 y.ep, .slice y.a y.es.length y.c]] w fun e w' => e = .returned (.bool v) ∧ Below w.heap.size w w' := by
  unfold btr at hv
  obtain ⟨e1, a1, c1, es1⟩ := x
  obtain ⟨e2, a2, c2, es2⟩ := y
  simp only at hv ⊢
  generalize es1.length = n1 at *
  generalize es2.length = n2 at *
  by_cases h : e1 = e2
  · rw [if_pos h] at hv
    subst h
    have hd : decide ((n2 : Int) < (n1 : Int)) = v := by rw [← hv]; exact decide_eq_decide.2 (by omega)
    have hd2 : decide (n2 < n1) = v := hv
    clear hv
    go_enter Try.func23, Try.ntmps23
    go_wp2
    go_ret
    exact ⟨rfl, bel_tr (bel_al _ _) (bel_al _ _)⟩
  · rw [if_neg h] at hv
    subst hv
    go_enter Try.func23, Try.ntmps23
    go_wp2
    go_ret
    exact ⟨rfl, bel_tr (bel_al _ _) (bel_al _ _)⟩

/-- How many entries two lists have in common. -/
def agr : List En → List En → Nat
  | x :: xs, y :: ys => if x = y then agr xs ys + 1 else 0
  | _, _ => 0
theorem agr_le : ∀ xs ys : List En, agr xs ys ≤ xs.length ∧ agr xs ys ≤ ys.length
  | [], _ => ⟨Nat.le_refl _, Nat.zero_le _⟩
  | _ :: _, [] => ⟨Nat.zero_le _, Nat.le_refl _⟩
  | x :: xs, y :: ys => by
    have := agr_le xs ys
    unfold agr
    split
    · simp only [List.length_cons]; omega
    · simp only [List.length_cons]; omega
theorem agr_take : ∀ xs ys : List En, xs.take (agr xs ys) = ys.take (agr xs ys)
  | [], ys => by simp [agr]
  | _ :: _, [] => by simp [agr]
  | x :: xs, y :: ys => by
    have := agr_take xs ys
    unfold agr
    split
    · rename_i h; subst h; simp only [List.take_succ_cons]; rw [this]
    · rfl
theorem agr_is : ∀ (xs ys : List En) (n : Nat) (h1 : n ≤ xs.length) (h2 : n ≤ ys.length) (h3 : ∀ j (h1 : j < xs.length) (h2 : j < ys.length), j < n → xs[j] = ys[j]) (h4 : n = xs.length ∨ n = ys.length ∨ ∃ (h1 : n < xs.length) (h2 : n < ys.length), ¬ xs[n] = ys[n]), agr xs ys = n
  | [], ys, n, h1, h2, h3, h4 => by simp at h1; subst h1; rfl
  | _ :: _, [], n, h1, h2, h3, h4 => by simp at h2; subst h2; rfl
  | x :: xs, y :: ys, 0, h1, h2, h3, h4 => by
    unfold agr
    rw [if_neg]
    rcases h4 with h | h | ⟨_, _, h⟩
    · simp at h
    · simp at h
    · exact h
  | x :: xs, y :: ys, n + 1, h1, h2, h3, h4 => by
    have h0 : x = y := h3 0 (by simp) (by simp) (by omega)
    unfold agr
    rw [if_pos h0, agr_is xs ys n (by simpa using h1) (by simpa using h2) (fun j k1 k2 kj => h3 (j + 1) (by simpa using k1) (by simpa using k2) (by omega)) (by
      rcases h4 with h | h | ⟨k1, k2, h⟩
      · exact .inl (by simpa using h)
      · exact .inr (.inl (by simpa using h))
      · exact .inr (.inr ⟨by simpa using k1, by simpa using k2, by simpa using h⟩))]
theorem agr_comm (xs ys : List En) : agr xs ys = agr ys xs := by
  induction xs generalizing ys with
  | nil => cases ys <;> rfl
  | cons x xs ih =>
    cases ys with
    | nil => rfl
    | cons y ys =>
      unfold agr
      by_cases h : x = y
      · rw [if_pos h, if_pos h.symm, ih]
      · rw [if_neg h, if_neg (fun k => h k.symm)]
theorem agr_self (xs : List En) : agr xs xs = xs.length := agr_is xs xs _ (Nat.le_refl _) (Nat.le_refl _) (fun _ _ _ _ => rfl) (.inl rfl)
theorem agr_stop {xs ys : List En} (h1 : agr xs ys < xs.length) (h2 : agr xs ys < ys.length) : ¬ xs[agr xs ys] = ys[agr xs ys] := by
  induction xs generalizing ys with
  | nil => simp at h1
  | cons x xs ih =>
    cases ys with
    | nil => simp at h2
    | cons y ys =>
      by_cases h : x = y
      · have e : agr (x :: xs) (y :: ys) = agr xs ys + 1 := by conv => lhs; unfold agr; rw [if_pos h]
        simp only [e] at h1 h2 ⊢
        exact ih (by simpa using h1) (by simpa using h2)
      · have e : agr (x :: xs) (y :: ys) = 0 := by conv => lhs; unfold agr; rw [if_neg h]
        simp only [e]
        exact h

set_option maxRecDepth 100000 in
set_option maxHeartbeats 2000000 in
theorem agree_val {O O2 : Nat → Prop} {w : World} {a a' : Option Addr} {xs ys : List En} (h1 : Lie enC O w a xs) (h2 : Lie enC O2 w a' ys) (n m c c' : Nat) (hn : xs.length = n) (hm : ys.length = m) (v : Nat) (hv : agr xs ys = v) :
    Calls Try.prog 11 #[.slice a n c, .slice a' m c'] w fun e w' => e = .returned (.int .i64 v) ∧ Below w.heap.size w w' := by
  have hl1 := h1.lid
  rw [hn] at hl1
  have hl2 := h2.lid
  rw [hm] at hl2
  unfold maxLen at hl1 hl2
  obtain ⟨M, hM⟩ : ∃ M, min n m = M := ⟨_, rfl⟩
  have hmin : min (n : Int) (m : Int) = (M : Int) := by omega
  have hMn : M ≤ n := by omega
  have hMm : M ≤ m := by omega
  have HE : Hid (M = n ∨ M = m) := by show M = n ∨ M = m; omega
  have H1 : Hid (Lie enC O w a xs) := h1
  have H2 : Hid (Lie enC O2 w a' ys) := h2
  have HN : Hid (xs.length = n) := hn
  have HM : Hid (ys.length = m) := hm
  have HV : Hid (agr xs ys = v) := hv
  clear h1 h2 hn hm hv hM
  go_enter Try.func11, Try.ntmps11
  go_wp2
  go_loopw [5, 11] (fun _ u wr => ∃ i d : Nat, i ≤ M ∧ u = .int .i64 i ∧ wr = w.drewN d ∧ ∀ j (h1 : j < xs.length) (h2 : j < ys.length), j < i → xs[j] = ys[j]) (fun _ u _ => M - (intOf u).toNat)
  case atStart => exact ⟨0, 0, by omega, rfl, rfl, fun j _ _ h => by omega⟩
  case round =>
    obtain ⟨i, d, hi, rfl, hd, hall⟩ := hrel
    by_cases hlt : i < M
    · have e1 : i < xs.length := by rw [HN.out]; omega
      have e2 : i < ys.length := by rw [HM.out]; omega
      have hin : i < n := by omega
      have him : i < m := by omega
      have hb : Below w.heap.size w wr := by rw [hd]; exact bel_dr _ _
      obtain ⟨b, off, rfl, hc⟩ := (H1.out.below hb).at wideN e1
      obtain ⟨b', off', rfl, hc'⟩ := (H2.out.below hb).at wideN e2
      have HNO : Hid (¬ xs[i] = ys[i] → v = i) := fun hno => by
        rw [← HV.out]
        exact agr_is xs ys i (by omega) (by omega) hall (.inr (.inr ⟨e1, e2, hno⟩))
      have HNX : Hid (xs[i] = ys[i] → ∀ j (h1 : j < xs.length) (h2 : j < ys.length), j < i + 1 → xs[j] = ys[j]) := fun hk j h1 h2 hji => by
        rcases Nat.lt_or_ge j i with h | h
        · exact hall j h1 h2 h
        · obtain rfl : j = i := by omega
          exact hk
      generalize xs[i] = x at *
      generalize ys[i] = y at *
      obtain ⟨tx, dx⟩ := x
      obtain ⟨ty, dy⟩ := y
      have q0 : wr.cell? ⟨b, off + i * 2, none⟩ = some (.int .i64 tx) := hc 0 _ rfl
      have q1 : wr.cell? ⟨b, off + i * 2 + 1, none⟩ = some (.string dx) := hc 1 _ rfl
      have r0 : wr.cell? ⟨b', off' + i * 2, none⟩ = some (.int .i64 ty) := hc' 0 _ rfl
      have r1 : wr.cell? ⟨b', off' + i * 2 + 1, none⟩ = some (.string dy) := hc' 1 _ rfl
      have HD : Hid (wr = w.drewN d) := hd
      clear hd hc hc' hb H1 H2 hall
      by_cases hx : tx = ty
      · by_cases hs : dx = dy
        · have HK : Hid (∀ j (h1 : j < xs.length) (h2 : j < ys.length), j < i + 1 → xs[j] = ys[j]) := HNX.out (by rw [hx, hs])
          subst hx hs
          clear HNO HNX
          go_wp2
          go_quiet (fail)
          go_wp2
          go_roundw
          case rel => exact ⟨i + 1, d + nq, by omega, by go_num, by rw [HD.out, World.drewN_drewN], HK.out⟩
          case measure => simp [intOf]; omega
        · have hvf := HNO.out (fun e => by injection e with _ e2; exact hs e2)
          have hbe := bytes_ne hs
          subst hx hvf
          clear HNO HNX hs
          go_wp2
          go_quiet (fail)
          go_wp2
          go_ret
          exact ⟨rfl, by rw [HD.out, World.drewN_drewN]; exact bel_dr _ _⟩
      · have hvf := HNO.out (fun e => by injection e with e2 _; exact hx e2)
        subst hvf
        clear HNO HNX
        go_wp2
        go_quiet (fail)
        go_wp2
        go_ret
        exact ⟨rfl, by rw [HD.out, World.drewN_drewN]; exact bel_dr _ _⟩
    · obtain rfl : i = M := by omega
      have hve : v = i := by
        rw [← HV.out]
        refine agr_is xs ys i (by rw [HN.out]; exact hMn) (by rw [HM.out]; exact hMm) hall ?_
        rcases HE.out with h | h
        · exact .inl (h.trans HN.out.symm)
        · exact .inr (.inl (h.trans HM.out.symm))
      subst hve
      have HD : Hid (wr = w.drewN d) := hd
      clear hd hall HV
      go_wp2
      go_ret
      exact ⟨rfl, by rw [HD.out]; exact bel_dr _ _⟩

set_option maxRecDepth 100000 in
set_option maxHeartbeats 2000000 in
theorem entries_val {O O2 : Nat → Prop} {w : World} {a a' : Option Addr} {xs ys : List En} (h1 : Lie enC O w a xs) (h2 : Lie enC O2 w a' ys) (n m c c' : Nat) (hn : xs.length = n) (hm : ys.length = m) (v : Bool) (hv : v = true ↔ xs = ys) :
    Calls Try.prog 10 #[.slice a n c, .slice a' m c'] w fun e w' => e = .returned (.bool v) ∧ Below w.heap.size w w' := by
  have hl1 := h1.lid
  rw [hn] at hl1
  unfold maxLen at hl1
  have H1 : Hid (Lie enC O w a xs) := h1
  have H2 : Hid (Lie enC O2 w a' ys) := h2
  have HN : Hid (xs.length = n) := hn
  have HM : Hid (ys.length = m) := hm
  have HV : Hid (v = true ↔ xs = ys) := hv
  clear h1 h2 hn hm hv
  by_cases hnm : n = m
  · subst hnm
    go_enter Try.func10, Try.ntmps10
    go_wp2
    go_loopw [5] (fun u wr => ∃ i d : Nat, i ≤ n ∧ u = .int .i64 i ∧ wr = w.drewN d ∧ ∀ j (h1 : j < xs.length) (h2 : j < ys.length), j < i → xs[j] = ys[j]) (fun u _ => n - (intOf u).toNat)
    case atStart => exact ⟨0, 0, by omega, rfl, rfl, fun j _ _ h => by omega⟩
    case round =>
      obtain ⟨i, d, hi, rfl, hd, hall⟩ := hrel
      by_cases hlt : i < n
      · have e1 : i < xs.length := by rw [HN.out]; exact hlt
        have e2 : i < ys.length := by rw [HM.out]; exact hlt
        have hb : Below w.heap.size w wr := by rw [hd]; exact bel_dr _ _
        obtain ⟨b, off, rfl, hc⟩ := (H1.out.below hb).at wideN e1
        obtain ⟨b', off', rfl, hc'⟩ := (H2.out.below hb).at wideN e2
        have hno : ¬ xs[i] = ys[i] → v = false := fun hno => by
          cases v with
          | false => rfl
          | true => exact absurd (by simp only [HV.out.1 rfl]) hno
        have HNX : Hid (xs[i] = ys[i] → ∀ j (h1 : j < xs.length) (h2 : j < ys.length), j < i + 1 → xs[j] = ys[j]) := fun hk j h1 h2 hji => by
          rcases Nat.lt_or_ge j i with h | h
          · exact hall j h1 h2 h
          · obtain rfl : j = i := by omega
            exact hk
        generalize xs[i] = x at *
        generalize ys[i] = y at *
        obtain ⟨tx, dx⟩ := x
        obtain ⟨ty, dy⟩ := y
        have q0 : wr.cell? ⟨b, off + i * 2, none⟩ = some (.int .i64 tx) := hc 0 _ rfl
        have q1 : wr.cell? ⟨b, off + i * 2 + 1, none⟩ = some (.string dx) := hc 1 _ rfl
        have r0 : wr.cell? ⟨b', off' + i * 2, none⟩ = some (.int .i64 ty) := hc' 0 _ rfl
        have r1 : wr.cell? ⟨b', off' + i * 2 + 1, none⟩ = some (.string dy) := hc' 1 _ rfl
        have HD : Hid (wr = w.drewN d) := hd
        clear hd hc hc' hb H1 H2 hall
        by_cases hx : tx = ty
        · by_cases hs : dx = dy
          · have HK : Hid (∀ j (h1 : j < xs.length) (h2 : j < ys.length), j < i + 1 → xs[j] = ys[j]) := HNX.out (by rw [hx, hs])
            subst hx hs
            clear hno HNX
            go_wp2
            go_quiet (fail)
            go_wp2
            go_roundw
            case rel => exact ⟨i + 1, d + nq, by omega, by go_num, by rw [HD.out, World.drewN_drewN], HK.out⟩
            case measure => simp [intOf]; omega
          · have hvf := hno (fun e => by injection e with _ e2; exact hs e2)
            have hbe := bytes_ne hs
            subst hx hvf
            clear hno HNX HV hs
            go_wp2
            go_quiet (fail)
            go_wp2
            go_ret
            exact ⟨rfl, by rw [HD.out, World.drewN_drewN]; exact bel_dr _ _⟩
        · have hvf := hno (fun e => by injection e with e2 _; exact hx e2)
          subst hvf
          clear hno HNX HV
          go_wp2
          go_quiet (fail)
          go_wp2
          go_ret
          exact ⟨rfl, by rw [HD.out, World.drewN_drewN]; exact bel_dr _ _⟩
      · have hvt : v = true := HV.out.2 (List.ext_getElem (by rw [HN.out, HM.out]) (fun j h1 h2 => hall j h1 h2 (by have := HN.out; omega)))
        subst hvt
        have HD : Hid (wr = w.drewN d) := hd
        clear hd hall HV
        go_wp2
        go_ret
        exact ⟨rfl, by rw [HD.out]; exact bel_dr _ _⟩
  · have hvf : v = false := by
      cases v with
      | false => rfl
      | true => exact absurd (by rw [← HN.out, ← HM.out, HV.out.1 rfl]) hnm
    subst hvf
    clear HV
    go_enter Try.func10, Try.ntmps10
    go_wp2
    go_ret
    exact ⟨rfl, Below.refl _ _⟩

end Go.Proofs.Ytapnjgmihfmapaa.Chs
