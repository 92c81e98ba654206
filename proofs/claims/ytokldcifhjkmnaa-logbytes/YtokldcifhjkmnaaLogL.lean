/- The contracts of tabulariumlaw14.pick, entries, same. -/
import Derived.Test.YtokldcifhjkmnaaLogP
import Derived.BigQuiet
import Derived.Lib.QuietBelow
namespace Go.Proofs.Ytokldcifhjkmnaa.Lgg
open Go.RowKit Go.Proofs.Ytokldcifhjkmnaa
open Go.Proofs.Ytokldcifhjkmnaa.Smm (bytes_ne)
set_option linter.unusedVariables false

set_option maxRecDepth 100000 in
theorem pick_val (k : Int) (n Q : Nat) (w : World) (hk : -9223372036854775808 ≤ k ∧ k ≤ 9223372036854775807) (hn : 0 < n ∧ n ≤ 1000) (hQ : keepN k % n = Q) :
    Calls Try.prog 25 #[.int .i64 k, .int .i64 n] w fun e w' => e = .returned (.int .i64 Q) ∧ w' = w := by
  have hlt := Nat.mod_lt (keepN k) hn.1
  rw [hQ] at hlt
  unfold keepN at hQ
  by_cases hneg : k < 0
  · rw [if_pos hneg] at hQ
    obtain ⟨kn, hkn⟩ : ∃ kn, (-(k + 1)).toNat = kn := ⟨_, rfl⟩
    rw [hkn] at hQ
    have hkk : -(k + 1) = (kn : Int) := by omega
    have hr1 : (kn : Int).tmod (n : Int) = (Q : Int) := by rw [Int.tmod_eq_emod_of_nonneg (by omega), ← hQ]; rfl
    have hr2 : (kn : Int) % (n : Int) = (Q : Int) := by rw [← hQ]; rfl
    clear hQ hkn
    go_enter Try.func25, Try.ntmps25
    go_wp2
    go_ret
    exact ⟨rfl, rfl⟩
  · rw [if_neg hneg] at hQ
    obtain ⟨kn, hkn⟩ : ∃ kn, k.toNat = kn := ⟨_, rfl⟩
    rw [hkn] at hQ
    obtain rfl : k = (kn : Int) := by omega
    have hr1 : (kn : Int).tmod (n : Int) = (Q : Int) := by rw [Int.tmod_eq_emod_of_nonneg (by omega), ← hQ]; rfl
    have hr2 : (kn : Int) % (n : Int) = (Q : Int) := by rw [← hQ]; rfl
    clear hQ hkn
    go_enter Try.func25, Try.ntmps25
    go_wp2
    go_ret
    exact ⟨rfl, rfl⟩

theorem bel_dr (w : World) (n : Nat) : Below w.heap.size w (w.drewN n) := below_drewN (Below.refl _ _) n

set_option maxRecDepth 100000 in
set_option maxHeartbeats 2000000 in
theorem entries_val {O O2 : Nat → Prop} {w : World} {a a' : Option Addr} {xs ys : List En} (h1 : Lie enC O w a xs) (h2 : Lie enC O2 w a' ys) (n m c c' : Nat) (hn : xs.length = n) (hm : ys.length = m) (v : Bool) (hv : v = true ↔ xs = ys) :
    Calls Try.prog 49 #[.slice a n c, .slice a' m c'] w fun e w' => e = .returned (.bool v) ∧ Below w.heap.size w w' := by
  have hl1 := h1.lid
  rw [hn] at hl1
  unfold maxLen at hl1
  have H1 : Hid (Lie enC O w a xs) := h1
  have H2 : Hid (Lie enC O2 w a' ys) := h2
  have HN : Hid (xs.length = n) := hn
  have HM : Hid (ys.length = m) := hm
  have HV : Hid (v = true ↔ xs = ys) := hv
  clear h1 h2 hn hm hv
  by_cases hnm : n = m
  · subst hnm
    go_enter Try.func49, Try.ntmps49
    go_wp2
    go_loopw [5] (fun u wr => ∃ i d : Nat, i ≤ n ∧ u = .int .i64 i ∧ wr = w.drewN d ∧ ∀ j (h1 : j < xs.length) (h2 : j < ys.length), j < i → xs[j] = ys[j]) (fun u _ => n - (intOf u).toNat)
    case atStart => exact ⟨0, 0, by omega, rfl, rfl, fun j _ _ h => by omega⟩
    case round =>
      obtain ⟨i, d, hi, rfl, hd, hall⟩ := hrel
      by_cases hlt : i < n
      · have e1 : i < xs.length := by rw [HN.out]; exact hlt
        have e2 : i < ys.length := by rw [HM.out]; exact hlt
        have hb : Below w.heap.size w wr := by rw [hd]; exact bel_dr _ _
        obtain ⟨b, off, rfl, hc⟩ := (H1.out.below hb).at wideN e1
        obtain ⟨b', off', rfl, hc'⟩ := (H2.out.below hb).at wideN e2
        have hno : ¬ xs[i] = ys[i] → v = false := fun hno => by
          cases v with
          | false => rfl
          | true => exact absurd (by simp only [HV.out.1 rfl]) hno
        have HNX : Hid (xs[i] = ys[i] → ∀ j (h1 : j < xs.length) (h2 : j < ys.length), j < i + 1 → xs[j] = ys[j]) := fun hk j h1 h2 hji => by
          rcases Nat.lt_or_ge j i with h | h
          · exact hall j h1 h2 h
          · obtain rfl : j = i := by omega
            exact hk
        have HA : Hid (∀ j (h1 : j < xs.length) (h2 : j < ys.length), j < i → xs[j] = ys[j]) := hall
        generalize xs[i] = x at *
        generalize ys[i] = y at *
        obtain ⟨tx, dx⟩ := x
        obtain ⟨ty, dy⟩ := y
        have q0 : wr.cell? ⟨b, off + i * 2, none⟩ = some (.int .i64 tx) := hc 0 _ rfl
        have q1 : wr.cell? ⟨b, off + i * 2 + 1, none⟩ = some (.string dx) := hc 1 _ rfl
        have r0 : wr.cell? ⟨b', off' + i * 2, none⟩ = some (.int .i64 ty) := hc' 0 _ rfl
        have r1 : wr.cell? ⟨b', off' + i * 2 + 1, none⟩ = some (.string dy) := hc' 1 _ rfl
        have HD : Hid (wr = w.drewN d) := hd
        clear hd hc hc' hb H1 H2 hall
        by_cases hx : tx = ty
        · by_cases hs : dx = dy
          · have HK : Hid (∀ j (h1 : j < xs.length) (h2 : j < ys.length), j < i + 1 → xs[j] = ys[j]) := HNX.out (by rw [hx, hs])
            subst hx hs
            clear hno HNX
            go_wp2
            go_quiet (fail)
            go_wp2
            go_roundw
            case rel => exact ⟨i + 1, d + nq, by omega, by go_num, by rw [HD.out, World.drewN_drewN], HK.out⟩
            case measure => simp [intOf]; omega
          · have hvf := hno (fun e => by injection e with _ e2; exact hs e2)
            have hbe := bytes_ne hs
            subst hx hvf
            clear hno HNX HV hs
            go_wp2
            go_quiet (fail)
            go_wp2
            go_ret
            exact ⟨rfl, by rw [HD.out, World.drewN_drewN]; exact bel_dr _ _⟩
        · have hvf := hno (fun e => by injection e with e2 _; exact hx e2)
          subst hvf
          clear hno HNX HV
          go_wp2
          go_quiet (fail)
          go_wp2
          go_ret
          exact ⟨rfl, by rw [HD.out, World.drewN_drewN]; exact bel_dr _ _⟩
      · have hvt : v = true := HV.out.2 (List.ext_getElem (by rw [HN.out, HM.out]) (fun j h1 h2 => hall j h1 h2 (by have := HN.out; omega)))
        subst hvt
        have HD : Hid (wr = w.drewN d) := hd
        clear hd hall HV
        go_wp2
        go_ret
        exact ⟨rfl, by rw [HD.out]; exact bel_dr _ _⟩
  · have hvf : v = false := by
      cases v with
      | false => rfl
      | true => exact absurd (by rw [← HN.out, ← HM.out, HV.out.1 rfl]) hnm
    subst hvf
    clear HV
    go_enter Try.func49, Try.ntmps49
    go_wp2
    go_ret
    exact ⟨rfl, Below.refl _ _⟩

theorem boxes2 {w w1 : World} {x0 x1 y0 y1 : Value} {t u : TypeId} (h : Below ((w.alloc (.cells #[x0, x1] t)).alloc (.cells #[y0, y1] u)).heap.size ((w.alloc (.cells #[x0, x1] t)).alloc (.cells #[y0, y1] u)) w1) : w1.cell? ⟨w.heap.size, 0, none⟩ = some x0 ∧ w1.cell? ⟨w.heap.size, 1, none⟩ = some x1 ∧ w1.cell? ⟨w.heap.size + 1, 0, none⟩ = some y0 ∧ w1.cell? ⟨w.heap.size + 1, 1, none⟩ = some y1 ∧ Below w.heap.size w w1 := by
  have hz : (w.alloc (.cells #[x0, x1] t)).heap.size = w.heap.size + 1 := by simp
  obtain ⟨a0, a1, _, _⟩ := cells2 w x0 x1 t
  obtain ⟨b0, b1, _, _⟩ := cells2 (w.alloc (.cells #[x0, x1] t)) y0 y1 u
  rw [hz] at b0 b1
  exact ⟨bel_cell h (bel_cell (bel_al _ _) a0), bel_cell h (bel_cell (bel_al _ _) a1), bel_cell h b0, bel_cell h b1, bel_tr (bel_tr (bel_al _ _) (bel_al _ _)) h⟩

set_option maxRecDepth 100000 in
set_option maxHeartbeats 1000000 in
theorem same_val {O O2 : Nat → Prop} {w : World} {a a' : Option Addr} {xs ys : List En} (h1 : Lie enC O w a xs) (h2 : Lie enC O2 w a' ys) (n m c c' : Nat) (hn : xs.length = n) (hm : ys.length = m) (e1 e2 : Int) (v : Bool) (hv : v = true ↔ (⟨e1, xs⟩ : Lg) = ⟨e2, ys⟩) :
    Calls Try.prog 19 #[.agg #[.int .i64 e1, .slice a n c], .agg #[.int .i64 e2, .slice a' m c']] w fun e w' => e = .returned (.bool v) ∧ Below w.heap.size w w' := by
  obtain ⟨u, hu⟩ : ∃ u : Bool, u = true ↔ xs = ys := by classical exact ⟨decide (xs = ys), decide_eq_true_iff⟩
  have HE : Hid (∀ W, Below w.heap.size w W → Calls Try.prog 49 #[.slice a n c, .slice a' m c'] W fun e w' => e = .returned (.bool u) ∧ Below W.heap.size W w') := fun W hb => entries_val (h1.below hb) (h2.below hb) n m c c' hn hm u hu
  have HV : v = (u && decide (e1 = e2)) := by
    rw [Bool.eq_iff_iff, hv, Bool.and_eq_true, hu, decide_eq_true_iff]
    constructor
    · intro h; injection h with k1 k2; exact ⟨k2, k1⟩
    · rintro ⟨k1, k2⟩; rw [k1, k2]
  clear h1 h2 hn hm hv hu
  subst HV
  go_enter Try.func19, Try.ntmps19
  go_wp2_with fail
  refine (HE.out _ (bel_tr (bel_al _ _) (bel_al _ _))).mono ?_
  rintro e w1 ⟨rfl, b1⟩
  obtain ⟨x0, x1, y0, y1, B⟩ := boxes2 b1
  have HB : Hid (Below w.heap.size w w1) := B
  clear b1 B HE
  cases u with
  | true =>
    go_wp2
    go_ret
    exact ⟨by first | rfl | simp, HB.out⟩
  | false =>
    go_wp2
    go_ret
    exact ⟨by first | rfl | simp, HB.out⟩

end Go.Proofs.Ytokldcifhjkmnaa.Lgg
