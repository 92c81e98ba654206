/- The contracts of the reference's Agree and Best. -/
import Derived.Test.YtapnjgmihfmapaaChsF2
namespace Go.Proofs.Ytapnjgmihfmapaa.Chs
open Go.RowKit Go.Proofs.Ytapnjgmihfmapaa Go.Proofs.Ytapnjgmihfmapaa.Lgg
set_option linter.unusedVariables false

set_option maxRecDepth 100000 in
set_option maxHeartbeats 4000000 in
theorem refAgree_val {O O2 : Nat → Prop} {w : World} {a a' : Option Addr} {xs ys : List En} (h1 : Lie enC O w a xs) (h2 : Lie enC O2 w a' ys) (n m c c' : Nat) (hn : xs.length = n) (hm : ys.length = m) (v : Nat) (hv : agr xs ys = v) :
    Calls Try.prog 12 #[.slice a n c, .slice a' m c'] w fun e w' => e = .returned (.int .i64 v) ∧ Below w.heap.size w w' := by
  have hl1 := h1.lid
  rw [hn] at hl1
  have hl2 := h2.lid
  rw [hm] at hl2
  unfold maxLen at hl1 hl2
  have H1 : Hid (Lie enC O w a xs) := h1
  have H2 : Hid (Lie enC O2 w a' ys) := h2
  have HN : Hid (xs.length = n) := hn
  have HM : Hid (ys.length = m) := hm
  have HV : Hid (agr xs ys = v) := hv
  clear h1 h2 hn hm hv
  go_enter Try.func12, Try.ntmps12
  go_wp2
  go_loopw [5] (fun u wr => ∃ i d : Nat, i ≤ n ∧ i ≤ m ∧ u = .int .i64 i ∧ wr = w.drewN d ∧ ∀ j (h1 : j < xs.length) (h2 : j < ys.length), j < i → xs[j] = ys[j]) (fun u _ => n - (intOf u).toNat)
  case atStart => exact ⟨0, 0, by omega, by omega, rfl, rfl, fun j _ _ h => by omega⟩
  case round =>
    obtain ⟨i, d, hi, hi2, rfl, hd, hall⟩ := hrel
    by_cases hlt : i < n ∧ i < m
    · obtain ⟨hin, him⟩ := hlt
      have e1 : i < xs.length := by rw [HN.out]; omega
      have e2 : i < ys.length := by rw [HM.out]; omega
      have hb : Below w.heap.size w wr := by rw [hd]; exact bel_dr _ _
      obtain ⟨b, off, rfl, hc⟩ := (H1.out.below hb).at wideN e1
      obtain ⟨b', off', rfl, hc'⟩ := (H2.out.below hb).at wideN e2
      have HNO : Hid (¬ xs[i] = ys[i] → v = i) := fun hno => by
        rw [← HV.out]
        exact agr_is xs ys i (by omega) (by omega) hall (.inr (.inr ⟨e1, e2, hno⟩))
      have HNX : Hid (xs[i] = ys[i] → ∀ j (h1 : j < xs.length) (h2 : j < ys.length), j < i + 1 → xs[j] = ys[j]) := fun hk j h1 h2 hji => by
        rcases Nat.lt_or_ge j i with h | h
        · exact hall j h1 h2 h
        · obtain rfl : j = i := by omega
          exact hk
      generalize xs[i] = x at *
      generalize ys[i] = y at *
      obtain ⟨tx, dx⟩ := x
      obtain ⟨ty, dy⟩ := y
      have q0 : wr.cell? ⟨b, off + i * 2, none⟩ = some (.int .i64 tx) := hc 0 _ rfl
      have q1 : wr.cell? ⟨b, off + i * 2 + 1, none⟩ = some (.string dx) := hc 1 _ rfl
      have r0 : wr.cell? ⟨b', off' + i * 2, none⟩ = some (.int .i64 ty) := hc' 0 _ rfl
      have r1 : wr.cell? ⟨b', off' + i * 2 + 1, none⟩ = some (.string dy) := hc' 1 _ rfl
      have HD : Hid (wr = w.drewN d) := hd
      clear hd hc hc' hb H1 H2 hall
      by_cases hx : tx = ty
      · by_cases hs : dx = dy
        · have HK : Hid (∀ j (h1 : j < xs.length) (h2 : j < ys.length), j < i + 1 → xs[j] = ys[j]) := HNX.out (by rw [hx, hs])
          subst hx hs
          clear HNO HNX
          go_wp2
          go_quiet (fail)
          go_wp2
          go_roundw
          case rel => exact ⟨i + 1, d + nq, by omega, by omega, by go_num, by rw [HD.out, World.drewN_drewN], HK.out⟩
          case measure => simp [intOf]; omega
        · have hvf := HNO.out (fun e => by injection e with _ e2; exact hs e2)
          have hbe := bytes_ne hs
          subst hx hvf
          clear HNO HNX hs
          go_wp2
          go_quiet (fail)
          go_wp2
          go_ret
          exact ⟨rfl, by rw [HD.out, World.drewN_drewN]; exact bel_dr _ _⟩
      · have hvf := HNO.out (fun e => by injection e with e2 _; exact hx e2)
        subst hvf
        clear HNO HNX
        go_wp2
        go_quiet (fail)
        go_wp2
        go_ret
        exact ⟨rfl, by rw [HD.out, World.drewN_drewN]; exact bel_dr _ _⟩
    · have hve : v = i := by
        rw [← HV.out]
        refine agr_is xs ys i (by rw [HN.out]; exact hi) (by rw [HM.out]; exact hi2) hall ?_
        rcases Nat.lt_or_ge i n with h | h
        · exact .inr (.inl (by rw [HM.out]; omega))
        · exact .inl (by rw [HN.out]; omega)
      subst hve
      have HD : Hid (wr = w.drewN d) := hd
      clear hd hall HV
      by_cases hin : v < n
      · obtain rfl : v = m := by omega
        have hmb : decide ((v : Int) < (v : Int)) = false := decide_eq_false (by omega)
        go_wp2
        go_quiet (fail)
        go_wp2
        go_ret
        exact ⟨rfl, by rw [HD.out, World.drewN_drewN]; exact bel_dr _ _⟩
      · have hnb : decide ((v : Int) < (n : Int)) = false := decide_eq_false (by omega)
        go_wp2
        go_quiet (fail)
        go_wp2
        go_ret
        exact ⟨rfl, by rw [HD.out, World.drewN_drewN]; exact bel_dr _ _⟩

set_option maxRecDepth 100000 in
set_option maxHeartbeats 4000000 in
theorem refBest_val {O O2 : Nat → Prop} {w : World} {a : Option Addr} {xs : List Ls} (h : LsAt O O2 w a xs) (n c : Nat) (hn : xs.length = n) (hb : n ≤ 1000000) (B : Int) (hB : bestI xs n = B) :
    Calls Try.prog 14 #[.slice a n c] w fun e w' => e = .returned (.int .i64 B) ∧ Below w.heap.size w w' := by
  have HL : Hid (Lie lsC O w a xs) := h.row
  have HN : Hid (xs.length = n) := hn
  have hb0 : bestI xs 0 = -1 := rfl
  have HBB : Hid (bestI xs n = B) := hB
  clear h hn hB
  go_enter Try.func14, Try.ntmps14
  go_wp2
  go_loopw [3, 4] (fun v3 v4 wr => ∃ i : Nat, i ≤ n ∧ v4 = .int .i64 i ∧ v3 = .int .i64 (bestI xs i) ∧ Below w.heap.size w wr) (fun _ v4 _ => n - (intOf v4).toNat)
  case atStart => exact ⟨0, by omega, rfl, rfl, Below.refl _ _⟩
  case round =>
    obtain ⟨i, hi, rfl, rfl, hbl⟩ := hrel
    have HB : Hid (Below w.heap.size w wr) := hbl
    by_cases hlt : i < n
    · have hix : i < xs.length := by rw [HN.out]; exact hlt
      obtain ⟨b, off, rfl, hat⟩ := Lie.all wideL (HL.out.below hbl) (by omega)
      have e0 : wr.cell? ⟨b, off + i * 2, none⟩ = some (.int .i64 xs[i].ep) := hat i hix 0 _ rfl
      have e1 : wr.cell? ⟨b, off + i * 2 + 1, none⟩ = some (.slice xs[i].a xs[i].es.length xs[i].c) := hat i hix 1 _ rfl
      have hlo := best_lt xs i
      by_cases hneg : bestI xs i < 0
      · have HX : Hid (bestI xs (i + 1) = (i : Int)) := best_neg hneg
        have hm1 : bestI xs i = -1 := by omega
        rw [hm1]
        clear hat hbl hlo hneg hm1 hb0
        generalize xs[i] = x at *
        obtain ⟨ex, ax, cx, sx⟩ := x
        simp only at e0 e1
        generalize sx.length = nx at *
        go_wp2
        go_quiet (fail)
        go_wp2
        go_roundw
        case rel => exact ⟨i + 1, by omega, by go_num, by rw [HX.out], bel_tr HB.out (bel_dr _ _)⟩
        case measure => simp [intOf]; omega
      · obtain ⟨k, hk⟩ : ∃ k : Nat, bestI xs i = (k : Int) := ⟨(bestI xs i).toNat, by omega⟩
        have hkn : k < n := by omega
        have hkx : k < xs.length := by rw [HN.out]; exact hkn
        have f0 : wr.cell? ⟨b, off + k * 2, none⟩ = some (.int .i64 xs[k].ep) := hat k hkx 0 _ rfl
        have f1 : wr.cell? ⟨b, off + k * 2 + 1, none⟩ = some (.slice xs[k].a xs[k].es.length xs[k].c) := hat k hkx 1 _ rfl
        have hk0 : decide ((k : Int) < 0) = false := decide_eq_false (by omega)
        obtain ⟨v, hv⟩ : ∃ v, btr xs[i] xs[k] = v := ⟨_, rfl⟩
        have HX : Hid (bestI xs (i + 1) = if v then (i : Int) else (k : Int)) := by
          cases v with
          | true => exact best_yes hix hkx hk hv
          | false => exact best_no hix hkx hk hv
        rw [hk]
        clear hat hbl hlo hneg hk hb0
        generalize xs[i] = x at *
        generalize xs[k] = y at *
        obtain ⟨ex, ax, cx, sx⟩ := x
        obtain ⟨ey, ay, cy, sy⟩ := y
        unfold btr at hv
        simp only at e0 e1 f0 f1 hv
        generalize sx.length = nx at *
        generalize sy.length = ny at *
        by_cases he : ex = ey
        · subst he
          rw [if_pos rfl] at hv
          have hgb : decide (ex > ex) = false := decide_eq_false (by omega)
          by_cases hl : ny < nx
          · have hlb : decide ((nx : Int) > (ny : Int)) = true := decide_eq_true (by omega)
            obtain rfl : v = true := by rw [← hv]; exact decide_eq_true hl
            clear hv
            go_wp2
            go_quiet (fail)
            go_wp2
            go_roundw
            case rel => exact ⟨i + 1, by omega, by go_num, by rw [HX.out]; rfl, bel_tr HB.out (bel_dr _ _)⟩
            case measure => simp [intOf]; omega
          · have hlb : decide ((nx : Int) > (ny : Int)) = false := decide_eq_false (by omega)
            obtain rfl : v = false := by rw [← hv]; exact decide_eq_false hl
            clear hv
            go_wp2
            go_quiet (fail)
            go_wp2
            go_roundw
            case rel => exact ⟨i + 1, by omega, by go_num, by rw [HX.out]; rfl, bel_tr HB.out (bel_dr _ _)⟩
            case measure => simp [intOf]; omega
        · rw [if_neg he] at hv
          have heb : decide (ex = ey) = false := decide_eq_false he
          have hec : (ex == ey) = false := by simpa using he
          by_cases hl : ey < ex
          · have hgb : decide (ex > ey) = true := decide_eq_true (by omega)
            obtain rfl : v = true := by rw [← hv]; exact decide_eq_true hl
            clear hv
            go_wp2
            go_quiet (fail)
            go_wp2
            go_roundw
            case rel => exact ⟨i + 1, by omega, by go_num, by rw [HX.out]; rfl, bel_tr HB.out (bel_dr _ _)⟩
            case measure => simp [intOf]; omega
          · have hgb : decide (ex > ey) = false := decide_eq_false (by omega)
            obtain rfl : v = false := by rw [← hv]; exact decide_eq_false hl
            clear hv
            go_wp2
            go_quiet (fail)
            go_wp2
            go_roundw
            case rel => exact ⟨i + 1, by omega, by go_num, by rw [HX.out]; rfl, bel_tr HB.out (bel_dr _ _)⟩
            case measure => simp [intOf]; omega
    · obtain rfl : i = n := by omega
      clear hbl hlt hb0
      rw [HBB.out]
      go_wp2
      go_ret
      exact ⟨rfl, HB.out⟩

end Go.Proofs.Ytapnjgmihfmapaa.Chs
