/- The contracts of choose.Best, the reference's, choose.commonEpoch, and the reference's count. -/
import Derived.Test.YtapnjgmihfmapaaChsH
import Derived.Lib.QuietBelow
namespace Go.Proofs.Ytapnjgmihfmapaa.Chs
open Go.RowKit Go.Proofs.Ytapnjgmihfmapaa Go.Proofs.Ytapnjgmihfmapaa.Lgg
set_option linter.unusedVariables false

theorem Lie.all {α : Type} {f : α → List Value} {O : Nat → Prop} {w : World} {a : Option Addr} {xs : List α} {k : Nat} (hf : Wide f k) (h : Lie f O w a xs) (hp : 0 < xs.length) : ∃ b off, a = some ⟨b, off, none⟩ ∧ ∀ (i : Nat) (hi : i < xs.length) (j : Nat) (u : Value), (f xs[i])[j]? = some u → w.cell? ⟨b, off + (i * k + j), none⟩ = some u := by
  obtain ⟨b, off, h1, _, _, h4⟩ := h.cells hp
  refine ⟨b, off, h1, fun i hi j u hu => h4 _ u ?_⟩
  have hj : j < k := by have := (List.getElem?_eq_some_iff.1 hu).1; rw [hf.len] at this; exact this
  rw [rowC_at hf xs i hi j hj]; exact hu
theorem cell_new (w : World) (cs : Array Value) (t : TypeId) (j : Nat) : (w.alloc (.cells cs t)).cell? ⟨w.heap.size, j, none⟩ = cs[j]? := World.cell?_alloc_new w cs t j
theorem cell_al {w : World} {a : Addr} {v : Value} (h : w.cell? a = some v) (o : Obj) : (w.alloc o).cell? a = some v := bel_cell (bel_al w o) h
theorem getD_in {xs : List Ls} {i : Nat} (hi : i < xs.length) : xs.getD i default = xs[i] := by rw [List.getD_eq_getElem?_getD, List.getElem?_eq_getElem hi]; rfl
theorem best_neg {xs : List Ls} {i : Nat} (h : bestI xs i < 0) : bestI xs (i + 1) = (i : Int) := by
  conv => lhs; unfold bestI
  rw [if_pos (.inl h)]
theorem best_yes {xs : List Ls} {i k : Nat} (hi : i < xs.length) (hk : k < xs.length) (h : bestI xs i = (k : Int)) (hb : btr xs[i] xs[k] = true) : bestI xs (i + 1) = (i : Int) := by
  conv => lhs; unfold bestI
  rw [h, Int.toNat_natCast, getD_in hi, getD_in hk, if_pos (.inr hb)]
theorem best_no {xs : List Ls} {i k : Nat} (hi : i < xs.length) (hk : k < xs.length) (h : bestI xs i = (k : Int)) (hb : btr xs[i] xs[k] = false) : bestI xs (i + 1) = (k : Int) := by
  conv => lhs; unfold bestI
  rw [h, Int.toNat_natCast, getD_in hi, getD_in hk, if_neg]
  rintro (h | h)
  · omega
  · rw [hb] at h; cases h

theorem box0 (wr : World) (x y : Value) (t : TypeId) (dd : Nat) (os : Array Obj) : (Sort.grow (redrawn (wr.alloc (.cells #[x, y] t)) dd) os).cell? ⟨wr.heap.size, 0, none⟩ = some x := cell_regrown (World.cell?_alloc_new wr #[x, y] t 0) dd os
theorem box1 (wr : World) (x y : Value) (t : TypeId) (dd : Nat) (os : Array Obj) : (Sort.grow (redrawn (wr.alloc (.cells #[x, y] t)) dd) os).cell? ⟨wr.heap.size, 1, none⟩ = some y := cell_regrown (World.cell?_alloc_new wr #[x, y] t 1) dd os

set_option maxRecDepth 100000 in
set_option maxHeartbeats 4000000 in
theorem best_val {O O2 : Nat → Prop} {w : World} {a : Option Addr} {xs : List Ls} (h : LsAt O O2 w a xs) (n c : Nat) (hn : xs.length = n) (hb : n ≤ 1000000) (B : Int) (hB : bestI xs n = B) :
    Calls Try.prog 13 #[.slice a n c] w fun e w' => e = .returned (.int .i64 B) ∧ Below w.heap.size w w' := by
  have HL : Hid (Lie lsC O w a xs) := h.row
  have HN : Hid (xs.length = n) := hn
  have hb0 : bestI xs 0 = -1 := rfl
  have HBB : Hid (bestI xs n = B) := hB
  clear h hn hB
  go_enter Try.func13, Try.ntmps13
  go_wp2
  go_loopw [3, 4, 5, 8] (fun v3 _ _ v8 wr => ∃ i : Nat, i ≤ n ∧ v8 = .int .i64 i ∧ v3 = .int .i64 (bestI xs i) ∧ Below w.heap.size w wr) (fun _ _ _ v8 _ => n - (intOf v8).toNat)
  case atStart => exact ⟨0, by omega, rfl, rfl, Below.refl _ _⟩
  case round =>
    obtain ⟨i, hi, rfl, rfl, hbl⟩ := hrel
    have HB : Hid (Below w.heap.size w wr) := hbl
    by_cases hlt : i < n
    · have hix : i < xs.length := by rw [HN.out]; exact hlt
      obtain ⟨b, off, rfl, hat⟩ := Lie.all wideL (HL.out.below hbl) (by omega)
      have e0 : wr.cell? ⟨b, off + i * 2, none⟩ = some (.int .i64 xs[i].ep) := hat i hix 0 _ rfl
      have e1 : wr.cell? ⟨b, off + i * 2 + 1, none⟩ = some (.slice xs[i].a xs[i].es.length xs[i].c) := hat i hix 1 _ rfl
      have hlo := best_lt xs i
      by_cases hneg : bestI xs i < 0
      · have HX : Hid (bestI xs (i + 1) = (i : Int)) := best_neg hneg
        have hm1 : bestI xs i = -1 := by omega
        rw [hm1]
        clear hat hbl hlo hneg hm1 hb0
        generalize xs[i] = x at *
        obtain ⟨ex, ax, cx, sx⟩ := x
        simp only at e0 e1
        go_wp2
        refine wp_region_quiet_below (by kernel_rfl) (by kernel_rfl) ?_
        repeat (first | go_big_quiet_step (fail) | quiet_step (fail))
        refine wpQuiet_nil ?_
        intro _ hw'
        obtain ⟨⟨dq, osq⟩, hw''⟩ := hw'
        subst hw''
        go_wp2
        go_roundw
        case rel => exact ⟨i + 1, by omega, by go_num, by rw [HX.out], bel_tr HB.out (bel_tr (bel_al _ _) (below_regrown _ dq osq))⟩
        case measure => simp [intOf]; omega
      · obtain ⟨k, hk⟩ : ∃ k : Nat, bestI xs i = (k : Int) := ⟨(bestI xs i).toNat, by omega⟩
        have hkn : k < n := by omega
        have hkx : k < xs.length := by rw [HN.out]; exact hkn
        have f0 : wr.cell? ⟨b, off + k * 2, none⟩ = some (.int .i64 xs[k].ep) := hat k hkx 0 _ rfl
        have f1 : wr.cell? ⟨b, off + k * 2 + 1, none⟩ = some (.slice xs[k].a xs[k].es.length xs[k].c) := hat k hkx 1 _ rfl
        have hk0 : decide ((k : Int) < 0) = false := decide_eq_false (by omega)
        have q0 := cell_al f0
        have q1 := cell_al f1
        obtain ⟨v, hv⟩ : ∃ v, btr xs[i] xs[k] = v := ⟨_, rfl⟩
        have HX : Hid (bestI xs (i + 1) = if v then (i : Int) else (k : Int)) := by
          cases v with
          | true => exact best_yes hix hkx hk hv
          | false => exact best_no hix hkx hk hv
        have CB : Hid (∀ W, Calls Try.prog 23 #[.agg #[.int .i64 xs[i].ep, .slice xs[i].a xs[i].es.length xs[i].c], .agg #[.int .i64 xs[k].ep, .slice xs[k].a xs[k].es.length xs[k].c]] W fun e w' => e = .returned (.bool v) ∧ Below W.heap.size W w') := fun W => better_val xs[i] xs[k] v hv W
        rw [hk]
        clear hat hbl hlo hneg hk hb0 hv f0 f1
        generalize xs[i] = x at *
        generalize xs[k] = y at *
        obtain ⟨ex, ax, cx, sx⟩ := x
        obtain ⟨ey, ay, cy, sy⟩ := y
        simp only at e0 e1 q0 q1 CB
        generalize sx.length = nx at *
        generalize sy.length = ny at *
        have r0 : ∀ o dd os, (Sort.grow (redrawn (wr.alloc o) dd) os).cell? ⟨b, off + k * 2, none⟩ = some (.int .i64 ey) := fun o dd os => cell_regrown (q0 o) dd os
        have r1 : ∀ o dd os, (Sort.grow (redrawn (wr.alloc o) dd) os).cell? ⟨b, off + k * 2 + 1, none⟩ = some (.slice ay ny cy) := fun o dd os => cell_regrown (q1 o) dd os
        have s0 := box0 wr (.int .i64 ex) (.slice ax nx cx) 31
        have s1 := box1 wr (.int .i64 ex) (.slice ax nx cx) 31
        clear q0 q1 hkx hix
        cases v with
        | true =>
          go_wp2
          refine wp_region_quiet_below (by kernel_rfl) (by kernel_rfl) ?_
          repeat (first | go_big_quiet_step (first | exact Calls.regrown_of (CB.out _) | fail) | quiet_step (first | exact Calls.regrown_of (CB.out _) | fail))
          refine wpQuiet_nil ?_
          intro _ hw'
          obtain ⟨⟨dq, osq⟩, hw''⟩ := hw'
          subst hw''
          go_wp2
          go_roundw
          case rel => exact ⟨i + 1, by omega, by go_num, by rw [HX.out]; rfl, bel_tr HB.out (bel_tr (bel_al _ _) (below_regrown _ dq osq))⟩
          case measure => simp [intOf]; omega
        | false =>
          go_wp2
          refine wp_region_quiet_below (by kernel_rfl) (by kernel_rfl) ?_
          repeat (first | go_big_quiet_step (first | exact Calls.regrown_of (CB.out _) | fail) | quiet_step (first | exact Calls.regrown_of (CB.out _) | fail))
          refine wpQuiet_nil ?_
          intro _ hw'
          obtain ⟨⟨dq, osq⟩, hw''⟩ := hw'
          subst hw''
          go_wp2
          go_roundw
          case rel => exact ⟨i + 1, by omega, by go_num, by rw [HX.out]; rfl, bel_tr HB.out (bel_tr (bel_al _ _) (below_regrown _ dq osq))⟩
          case measure => simp [intOf]; omega
    · obtain rfl : i = n := by omega
      clear hbl hlt hb0
      rw [HBB.out]
      go_wp2
      go_ret
      exact ⟨rfl, HB.out⟩

set_option maxRecDepth 100000 in
set_option maxHeartbeats 4000000 in
theorem many_val {O O2 : Nat → Prop} {w : World} {a : Option Addr} {xs : List Ls} (h : LsAt O O2 w a xs) (n c : Nat) (hn : xs.length = n) (hb : n ≤ 1000000) (e : Int) (k : Nat) (K0 : Nat) (hK0 : kN xs e k = K0) :
    Calls Try.prog 18 #[.slice a n c, .int .i64 e, .int .i64 k] w fun e' w' => e' = .returned (.int .i64 K0) ∧ w' = w := by
  have HL : Hid (Lie lsC O w a xs) := h.row
  have HN : Hid (xs.length = n) := hn
  have HK0 : Hid (kN xs e k = K0) := hK0
  clear h hn hK0
  go_enter Try.func18, Try.ntmps18
  go_wp2
  go_loopw [7, 8] (fun v7 v8 wr => ∃ i : Nat, i ≤ n ∧ v8 = .int .i64 i ∧ v7 = .int .i64 (kN (xs.take i) e k) ∧ wr = w) (fun _ v8 _ => n - (intOf v8).toNat)
  case atStart => exact ⟨0, by omega, rfl, rfl, rfl⟩
  case round =>
    obtain ⟨i, hi, rfl, rfl, rfl⟩ := hrel
    by_cases hlt : i < n
    · have hix : i < xs.length := by rw [HN.out]; exact hlt
      obtain ⟨b, off, rfl, hat⟩ := Lie.all wideL HL.out (by omega)
      have e0 : wr.cell? ⟨b, off + i * 2, none⟩ = some (.int .i64 xs[i].ep) := hat i hix 0 _ rfl
      have e1 : wr.cell? ⟨b, off + i * 2 + 1, none⟩ = some (.slice xs[i].a xs[i].es.length xs[i].c) := hat i hix 1 _ rfl
      have HX : Hid _ := kN_succ hix e k
      have hle := kN_le (xs.take i) e k
      rw [List.length_take] at hle
      clear hat
      generalize xs[i] = x at *
      obtain ⟨ex, ax, cx, sx⟩ := x
      simp only at e0 e1 HX
      generalize sx.length = nx at *
      generalize kN (xs.take i) e k = K at *
      have hK : K ≤ 1000000 := by omega
      clear hle
      by_cases h1 : ex = e
      · subst h1
        by_cases h2 : k ≤ nx
        · have h2b : decide ((nx : Int) ≥ (k : Int)) = true := decide_eq_true (by omega)
          go_wp2
          go_roundw
          case rel => exact ⟨i + 1, by omega, by go_num, by rw [HX.out, if_pos ⟨rfl, h2⟩]; rfl, by first | rfl | trivial⟩
          case measure => simp [intOf]; omega
        · have h2b : decide ((nx : Int) ≥ (k : Int)) = false := decide_eq_false (by omega)
          go_wp2
          go_roundw
          case rel => exact ⟨i + 1, by omega, by go_num, by rw [HX.out, if_neg (fun h => h2 h.2)]; rfl, by first | rfl | trivial⟩
          case measure => simp [intOf]; omega
      · have h1b : decide (ex = e) = false := decide_eq_false h1
        go_wp2
        go_roundw
        case rel => exact ⟨i + 1, by omega, by go_num, by rw [HX.out, if_neg (fun h => h1 h.1)]; rfl, by first | rfl | trivial⟩
        case measure => simp [intOf]; omega
    · obtain rfl : i = n := by omega
      have HX : Hid (kN (xs.take i) e k = kN xs e k) := by show _ = _; rw [List.take_of_length_le (by rw [HN.out]; omega)]
      clear hlt
      rw [HX.out, HK0.out]
      go_wp2
      go_ret
      exact ⟨rfl, rfl⟩

end Go.Proofs.Ytapnjgmihfmapaa.Chs
